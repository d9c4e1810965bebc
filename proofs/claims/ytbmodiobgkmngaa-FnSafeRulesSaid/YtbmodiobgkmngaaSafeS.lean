/- IsSafe in the model. -/
import Derived.Test.YtbmodiobgkmngaaSafeM
import Derived.Test.YtbmodiobgkmngaaSpare
import Derived.Deep.RegionHeld3
import Derived.Deep.RegionLawGrows
namespace Go.Proofs.Ytbmodiobgkmngaa
open Go.RowKit Go.Joins

theorem own_emptyS (w : World) (base : Nat) (hb : base ≤ w.heap.size) : (w.alloc (.cells #[] 3)).ownsRow base 3 1 (.slice (some ⟨w.heap.size, 0, none⟩) 0 0) 0 [] :=
  World.ownsRow_made w #[] 0 hb (by unfold maxLen; omega) rfl
theorem owns_row {w : World} {base m : Nat} {v : Value} {vs : List Int} (hm : vs.length = m) (h : Owns w base v vs) : w.ownsRow base 3 1 v m (vs.map (Value.int .i64)) := by subst hm; exact h
theorem first5 {wr W w5 : World} {v5 : Value} {vs : List Int} {k m : Nat} (hm : vs.length = m) (hB : Below wr.drew.heap.size wr.drew W) (ho : w5.ownsRow wr.heap.size 3 1 v5 (0 + m) ([] ++ vs.map (Value.int .i64))) (hg : W.grownBy w5 (some k)) (hk : wr.heap.size ≤ k) :
    Owns w5 wr.heap.size v5 vs ∧ Below wr.heap.size wr w5 := by
  subst hm
  refine ⟨by unfold Owns; simpa using ho, ?_⟩
  exact (bdrew hB).grown hg (bdrew hB).size (fun j hj => by cases hj; exact hk)
theorem last7 {wr w5 W w7 : World} {v5 v7 : Value} {vs : List Int} {z : Int} {m : Nat} (hm : vs.length = m) (h : Owns w5 wr.heap.size v5 vs ∧ Below wr.heap.size wr w5) (hB : Below w5.heap.size w5 W) (ho : w7.ownsRow wr.heap.size 3 1 v7 (m + 1) (vs.map (Value.int .i64) ++ [.int .i64 z])) (hg : W.grownBy w7 v5.ownBlock) :
    Owns w7 wr.heap.size v7 (vs ++ [z]) ∧ Below wr.heap.size wr w7 := by
  subst hm
  exact ⟨Owns.push ho, (bnext h.2 hB).grown hg (bnext h.2 hB).size (fun k hk => own_ge h.1 k hk)⟩
/-- what safeFrom promises for k more votes -/
def Safes (n : Int) (a : Option Addr) (zs : List Int) (cap : Nat) (v : Int) (b : Option Addr) (ws : List Int) (capb k : Nat) : Prop :=
  ∀ (vs : List Int) (m : Nat) (ad : Addr) (capl : Nat) (w : World), Ints w a zs → Ints w b ws → Ints w (some ad) vs → vs.length = m → m + k = v.toNat → (∀ x ∈ vs, 0 ≤ x ∧ x ≤ 255) →
    Calls Try.prog 61 #[.agg #[.int .i64 n, .slice a zs.length cap], .agg #[.int .i64 v, .slice b ws.length capb], .slice (some ad) m capl] w fun e w' => e = .returned (.bool (safeK zs ws k vs)) ∧ Below w.heap.size w w'
theorem SR.cells {w0 w : World} {n v : Int} {a b : Option Addr} {zs ws : List Int} {cap capb : Nat} (h : SR w0 n a zs cap v b ws capb w) :
    w.cell? ⟨w0.heap.size, 0, none⟩ = some (.int .i64 n) ∧ w.cell? ⟨w0.heap.size, 1, none⟩ = some (.slice a zs.length cap) ∧ w.cell? ⟨w0.heap.size + 1, 0, none⟩ = some (.int .i64 v) ∧ w.cell? ⟨w0.heap.size + 1, 1, none⟩ = some (.slice b ws.length capb) :=
  ⟨h.1.2.1, h.1.2.2, h.2.1.2.1, h.2.1.2.2⟩
theorem news_ints {w W : World} {ad : Addr} {vs : List Int} (h : Ints w (some ad) vs) (hB : Below w.heap.size w W) : ∀ j u, (vs.map (Value.int .i64))[j]? = some u → W.cell? (ad.add j) = some u := by
  intro j u hu
  rw [List.getElem?_map] at hu
  have hj : j < vs.length := by
    rcases Nat.lt_or_ge j vs.length with h | h
    · exact h
    · rw [List.getElem?_eq_none h] at hu; cases hu
  obtain ⟨b, off, e, hlt, hc⟩ := h (by omega)
  cases e
  have e1 : (⟨b, off, none⟩ : Addr).add j = ⟨b, off + j, none⟩ := by
    unfold Addr.add
    by_cases h : j = 0 <;> simp [h]
  rw [e1]
  have := (hB.cell (p := ⟨b, off + j, none⟩) hlt).trans (hc j hj)
  rw [this, getD_lt hj]
  rw [List.getElem?_eq_getElem hj] at hu
  exact hu
theorem own_emptyS1 (w : World) (o : Obj) (base : Nat) (hb : base ≤ w.heap.size) : ((w.alloc o).alloc (.cells #[] 3)).ownsRow base 3 1 (.slice (some ⟨w.heap.size + 1, 0, none⟩) 0 0) 0 [] := by
  have h := own_emptyS (w.alloc o) base (by rw [World.size_alloc]; omega)
  rw [World.size_alloc] at h
  exact h
theorem lit_kept2 {w w5 : World} {x : Int} (hg : ((w.alloc (.cells #[] 3)).alloc (.cells #[.int .i64 x] 3)).drew.grownBy w5 (some w.heap.size)) : w5.heap[w.heap.size + 1]? = some (.cells #[.int .i64 x] 3 (0, 0)) := by
  have h := heap_alloc_new (w.alloc (.cells #[] 3)) (.cells #[.int .i64 x] 3)
  rw [World.size_alloc] at h
  exact (hg.block (w.heap.size + 1) (by show w.heap.size + 1 < ((w.alloc (.cells #[] 3)).alloc (.cells #[.int .i64 x] 3)).heap.size; simp) (by simp)).trans h
theorem lit_kept3 {w w5 : World} {x : Int} (hg : ((w.alloc (.cells #[.int .i64 x] 3)).alloc (.cells #[] 3)).drew.grownBy w5 (some (w.heap.size + 1))) : w5.heap[w.heap.size]? = some (.cells #[.int .i64 x] 3 (0, 0)) := by
  have h := heap_alloc_new w (.cells #[.int .i64 x] 3)
  have h2 := ((bel1 (w.alloc (.cells #[.int .i64 x] 3)) (.cells #[] 3)).block w.heap.size (by simp)).trans h
  exact (hg.block w.heap.size (by show w.heap.size < ((w.alloc (.cells #[.int .i64 x] 3)).alloc (.cells #[] 3)).heap.size; rw [World.size_alloc, World.size_alloc]; omega) (by simp)).trans h2
theorem own_drewS {w : World} {base n : Nat} {e : TypeId} {size : Nat} {v : Value} {xs : List Value} (h : w.ownsRow base e size v n xs) : w.drew.ownsRow base e size v n xs := h
theorem bel_drewS {w W : World} (h : Below w.heap.size w W) : Below w.drew.heap.size w.drew W.drew := ⟨h.os, h.tape, h.output, h.size, h.block⟩
set_option maxHeartbeats 4000000 in
set_option maxRecDepth 100000 in
theorem safeLeaf_any (n v : Int) (a b : Option Addr) (cap capb : Nat) (zs ws : List Int) (hn : 1 ≤ n ∧ n ≤ 4) (hv : 1 ≤ v ∧ v ≤ 3) (hl : (ws.length : Int) = n) (hw : ∀ x ∈ ws, 0 ≤ x ∧ x ≤ 255) (hzn : zs.length ≤ 1048576) : Safes n a zs cap v b ws capb 0 := by
  intro vs m ad capl w hi hj hvs hm hk hr
  have S0 := SR.new w n v a b zs ws cap capb 25 34 hi hj
  have I0 := hvs.below S0.2.2.2.2
  have HW := hide hw
  have HR := hide hr
  subst hm
  have hE : ((vs.length : Int) == v) = true := by rw [beq_iff_eq]; omega
  have hv3 : vs.length ≤ 3 := by omega
  obtain ⟨c0, c1, d0, d1⟩ := S0.cells
  have SD := hide (S0.below (bdrew' (Below.refl _ _)))
  have HD := hide SD.out.cells
  have iD := SD.out.2.2.1
  have jD := SD.out.2.2.2.1
  have oD := I0.below (bdrew' (Below.refl _ _))
  clear hi hj hk S0 hw hr I0 hvs
  go_enter Try.func61, Try.ntmps61
  go_wp2_with fail
  go_region_held3 (fun w' => w'.cell? ⟨w.heap.size, 0, none⟩ = some (.int .i64 n) ∧ w'.cell? ⟨w.heap.size, 1, none⟩ = some (.slice a zs.length cap) ∧ w'.cell? ⟨w.heap.size + 1, 0, none⟩ = some (.int .i64 v) ∧ w'.cell? ⟨w.heap.size + 1, 1, none⟩ = some (.slice b ws.length capb))
    (first | go_keep | exact HS6.out | exact HS5.out | exact HD.out)
    (first
      | (go_at_call 82; refine (apply_any n v a b (some ad) cap capb capl zs ws vs _ iD jD oD hv3 HR.out hn hl HW.out).mono ?_; rintro e w5 ⟨rfl, b5⟩; have S5 := hide (SD.out.below b5); have HS5 := hide S5.out.cells; have i5 := S5.out.2.2.1; clear b5)
      | (go_at_call 81; refine (has_any n _ a cap zs _ i5 hzn).mono ?_; rintro e w6 ⟨rfl, b6⟩; have S6 := hide (S5.out.below b6); have HS6 := hide S6.out.cells; clear b6))
  all_goals
    go_wp2
    go_ret
    exact ⟨rfl, S6.out.2.2.2.2⟩
set_option maxHeartbeats 8000000 in
set_option maxRecDepth 100000 in
theorem safeFrom_any (n v : Int) (a b : Option Addr) (cap capb : Nat) (zs ws : List Int) (hn : 1 ≤ n ∧ n ≤ 4) (hv : 1 ≤ v ∧ v ≤ 3) (hl : (ws.length : Int) = n) (hz : ∀ x ∈ zs, 0 ≤ x ∧ x ≤ 255) (hw : ∀ x ∈ ws, 0 ≤ x ∧ x ≤ 255) (hzn : zs.length ≤ 1048576) : ∀ k, Safes n a zs cap v b ws capb k
  | 0 => safeLeaf_any n v a b cap capb zs ws hn hv hl hw hzn
  | k + 1 => by
    have HIH := hide (safeFrom_any n v a b cap capb zs ws hn hv hl hz hw hzn k)
    obtain ⟨i0, hi0, hz0, hz1, hz2⟩ := info_parts info_int
    intro vs m ad capl w hi hj hvs hm hk hr
    have S0 := SRV.new w n v a b (some ad) zs ws vs cap capb 25 34 hi hj hvs
    have HZ := hide hz
    have HR0 := hide hr
    have hE : ((m : Int) == v) = false := by rw [beq_eq_false_iff_ne]; omega
    have hm3 : m ≤ 3 := by omega
    have HK0 := hide hk
    have HM := hide hm
    have HONE : Hid (∀ u ∈ vs.map (Value.int .i64), u.oneCell' = true) := fun u hu => by
      obtain ⟨x, _, rfl⟩ := List.mem_map.1 hu
      rfl
    obtain ⟨c0, c1, d0, d1⟩ := S0.1.cells
    clear hi hj hvs hk hz hw hr hm
    go_enter Try.func61, Try.ntmps61
    go_wp2_with fail
    go_loopw [7] (fun i wq => ∃ j : Nat, j ≤ zs.length ∧ i = .int .i64 j ∧ (∀ t, t < j → safeK zs ws k (vs ++ [zs.getD t 0]) = true) ∧ SRV w n a zs cap v b ws capb (some ad) vs wq) (fun i _ => zs.length - (intOf i).toNat)
    case atStart => exact ⟨0, Nat.zero_le _, rfl, fun t ht => by omega, S0⟩
    case round =>
      clear S0 c0 c1 d0 d1
      obtain ⟨j, hj, rfl, hall, hs⟩ := hrel
      have HALL := hide hall
      clear hall
      by_cases hlt : j < zs.length
      · obtain ⟨bz, oz, rfl, hbl, hc⟩ := hs.1.2.2.1 (by omega)
        have hck := hc j hlt
        rw [getD_lt hlt] at hck
        have HKP : Hid (∀ w5 : World, Below wr.heap.size wr w5 → w5.cell? ⟨w.heap.size, 0, none⟩ = some (.int .i64 n) ∧ w5.cell? ⟨w.heap.size, 1, none⟩ = some (.slice (some ⟨bz, oz, none⟩) zs.length cap) ∧ w5.cell? ⟨w.heap.size + 1, 0, none⟩ = some (.int .i64 v) ∧ w5.cell? ⟨w.heap.size + 1, 1, none⟩ = some (.slice b ws.length capb) ∧ w5.cell? ⟨bz, oz + j, none⟩ = some (.int .i64 zs[j])) := fun w5 hB => by
          obtain ⟨q0, q1, q2, q3⟩ := (hs.1.below hB).cells
          exact ⟨q0, q1, q2, q3, (hB.cell (p := ⟨bz, oz + j, none⟩) hbl).trans hck⟩
        have HVN : Hid (∀ W : World, Below wr.drew.heap.size wr.drew W → ∀ j u, (vs.map (Value.int .i64))[j]? = some u → W.cell? (ad.add j) = some u) := fun W hB => news_ints hs.2 (bdrew hB)
        have HII : Hid (∀ W : World, Below wr.heap.size wr W → Ints W (some ⟨bz, oz, none⟩) zs) := fun W hB => hs.1.2.2.1.below hB
        have HIJ : Hid (∀ W : World, Below wr.heap.size wr W → Ints W b ws) := fun W hB => hs.1.2.2.2.1.below hB
        have HR := hide (mem_pushed (P := fun x => 0 ≤ x ∧ x ≤ 255) HR0.out (HZ.out _ (mem_of_at hlt)))
        have HLN : Hid ((vs ++ [zs[j]]).length = m + 1) := by have := HM.out; show (vs ++ [zs[j]]).length = m + 1; simp; omega
        have HK : Hid (m + 1 + k = v.toNat) := by have := HK0.out; show m + 1 + k = v.toNat; omega
        have hm0 := HM.out
        obtain ⟨c0, c1, d0, d1⟩ := hs.1.cells
        have HS := hide hs
        clear hs hc
        rcases Bool.eq_false_or_eq_true (safeK zs ws k (vs ++ [zs[j]])) with he | he
        · have HE := hide he
          clear he
          go_upto_region 6 with fail
          go_region_held3 (fun w' => w'.cell? ⟨w.heap.size, 0, none⟩ = some (.int .i64 n) ∧ w'.cell? ⟨w.heap.size, 1, none⟩ = some (.slice (some ⟨bz, oz, none⟩) zs.length cap) ∧ w'.cell? ⟨w.heap.size + 1, 0, none⟩ = some (.int .i64 v) ∧ w'.cell? ⟨w.heap.size + 1, 1, none⟩ = some (.slice b ws.length capb) ∧ w'.cell? ⟨bz, oz + j, none⟩ = some (.int .i64 zs[j]))
            (first | go_keep | exact HS8.out | exact HS7.out | exact HS5.out | exact HKP.out _ (bdrew' (Below.refl _ _)))
            (first
              | (refine step_append_own (by rfl) _ _ 23 (by rfl) wr.heap.size 3 i0 (.int .i64 0) 1 8 Try.underlying23 hi0 hz0 hz1 hz2 rfl (by decide) _ 0 [] (by rfl) (own_emptyS wr.drew wr.heap.size (Nat.le_refl _)) ad m capl (vs.map (Value.int .i64)) (by rfl) (by simp; omega) (HVN.out _ (bel1 _ _)) HONE.out (by unfold maxLen; omega) (by omega) (by simp) ?_; intro v5 w5 hown5 hgrow5 _; have F5 := hide (first5 hm0 (bel1 wr.drew (.cells #[] 3)) hown5 hgrow5 (by simp)); have HS5 := hide (HKP.out w5 F5.out.2); clear hown5 hgrow5)
              | (refine step_append_own (by rfl) _ _ 23 (by rfl) wr.heap.size 3 i0 (.int .i64 0) 1 8 Try.underlying23 hi0 hz0 hz1 hz2 rfl (by decide) _ 0 [] (by rfl) (own_drewS ((own_emptyS wr wr.heap.size (Nat.le_refl _)).alloc (.cells #[.int .i64 zs[j]] 3))) ad m capl (vs.map (Value.int .i64)) (by rfl) (by simp; omega) (HVN.out _ (bel_drewS (bel2 wr (.cells #[] 3) (.cells #[.int .i64 zs[j]] 3)))) HONE.out (by unfold maxLen; omega) (by omega) (by first | (simp; done) | (simp; omega)) ?_; intro v5 w5 hown5 hgrow5 _; have HLIT := hide (lit_kept2 hgrow5); have F5 := hide (first5 hm0 (bel_drewS (bel2 wr (.cells #[] 3) (.cells #[.int .i64 zs[j]] 3))) hown5 hgrow5 (by simp)); have HS5 := hide (HKP.out w5 F5.out.2); clear hown5 hgrow5)
              | (refine step_append_own (by rfl) _ _ 23 (by rfl) wr.heap.size 3 i0 (.int .i64 0) 1 8 Try.underlying23 hi0 hz0 hz1 hz2 rfl (by decide) _ 0 [] (by rfl) (own_drewS (own_emptyS1 wr (.cells #[.int .i64 zs[j]] 3) wr.heap.size (Nat.le_refl _))) ad m capl (vs.map (Value.int .i64)) (by rfl) (by simp; omega) (HVN.out _ (bel_drewS (bel2 wr (.cells #[.int .i64 zs[j]] 3) (.cells #[] 3)))) HONE.out (by unfold maxLen; omega) (by omega) (by first | (simp; done) | (simp; omega)) ?_; intro v5 w5 hown5 hgrow5 _; have HLIT := hide (lit_kept3 hgrow5); have F5 := hide (first5 hm0 (bel_drewS (bel2 wr (.cells #[.int .i64 zs[j]] 3) (.cells #[] 3))) hown5 hgrow5 (by simp)); have HS5 := hide (HKP.out w5 F5.out.2); clear hown5 hgrow5)
              | (refine step_append_own (by rfl) _ _ 23 (by rfl) wr.heap.size 3 i0 (.int .i64 0) 1 8 Try.underlying23 hi0 hz0 hz1 hz2 rfl (by decide) _ m (vs.map (Value.int .i64)) (by rfl) ((owns_row hm0 F5.out.1).alloc _) ⟨w5.heap.size, 0, none⟩ 1 1 [.int .i64 zs[j]] (by rfl) (by rfl) (World.news_of_block (cs := #[.int .i64 zs[j]]) (t := 3) (fr := (0, 0)) (heap_alloc_new w5 _)) (by simp [Value.oneCell']) (by unfold maxLen; omega) (by omega) (by have := F5.out.2.size; first | omega | (simp; omega)) ?_; intro v7 w7 hown7 hgrow7 _; obtain ⟨gg, cc, rfl, hgb, hgl⟩ := World.ownsRow.form hown7 (by omega); have F7 := hide (last7 hm0 F5.out (bel1 _ _) hown7 hgrow7); have HS7 := hide (HKP.out w7 F7.out.2); clear hown7 hgrow7 hgb hgl)
              | (refine step_append_own (by rfl) _ _ 23 (by rfl) wr.heap.size 3 i0 (.int .i64 0) 1 8 Try.underlying23 hi0 hz0 hz1 hz2 rfl (by decide) _ m (vs.map (Value.int .i64)) (by rfl) (owns_row hm0 F5.out.1) ⟨_, 0, none⟩ 1 1 [.int .i64 zs[j]] (by rfl) (by rfl) (World.news_of_block (cs := #[.int .i64 zs[j]]) (t := 3) (fr := (0, 0)) (HLIT.out)) (by simp [Value.oneCell']) (by unfold maxLen; omega) (by omega) (by have := F5.out.2.size; first | omega | (simp; omega)) ?_; intro v7 w7 hown7 hgrow7 _; obtain ⟨gg, cc, rfl, hgb, hgl⟩ := World.ownsRow.form hown7 (by omega); have F7 := hide (last7 hm0 F5.out (Below.refl _ _) hown7 hgrow7); have HS7 := hide (HKP.out w7 F7.out.2); clear hown7 hgrow7 hgb hgl)
              | (go_at_call 61; refine (HIH.out (vs ++ [zs[j]]) (m + 1) ⟨gg, 0, none⟩ cc w7 (HII.out w7 F7.out.2) (HIJ.out w7 F7.out.2) F7.out.1.ints HLN.out HK.out HR.out).mono ?_; rintro e w8 ⟨e8, b8⟩; rw [HE.out] at e8; subst e8; have B8 := hide (bnext F7.out.2 b8); have HS8 := hide (HKP.out w8 B8.out); clear b8))
          all_goals
            go_wp2
            go_roundw
            case rel => exact ⟨j + 1, by omega, by go_num, fun t ht => by
              rcases Nat.lt_or_ge t j with h | h
              · exact HALL.out t h
              · obtain rfl : t = j := by omega
                rw [getD_lt hlt]
                exact HE.out, HS.out.below B8.out⟩
            case measure => simp only [intOf]; omega
        · have HE := hide he
          clear he
          go_upto_region 6 with fail
          go_region_held3 (fun w' => w'.cell? ⟨w.heap.size, 0, none⟩ = some (.int .i64 n) ∧ w'.cell? ⟨w.heap.size, 1, none⟩ = some (.slice (some ⟨bz, oz, none⟩) zs.length cap) ∧ w'.cell? ⟨w.heap.size + 1, 0, none⟩ = some (.int .i64 v) ∧ w'.cell? ⟨w.heap.size + 1, 1, none⟩ = some (.slice b ws.length capb) ∧ w'.cell? ⟨bz, oz + j, none⟩ = some (.int .i64 zs[j]))
            (first | go_keep | exact HS8.out | exact HS7.out | exact HS5.out | exact HKP.out _ (bdrew' (Below.refl _ _)))
            (first
              | (refine step_append_own (by rfl) _ _ 23 (by rfl) wr.heap.size 3 i0 (.int .i64 0) 1 8 Try.underlying23 hi0 hz0 hz1 hz2 rfl (by decide) _ 0 [] (by rfl) (own_emptyS wr.drew wr.heap.size (Nat.le_refl _)) ad m capl (vs.map (Value.int .i64)) (by rfl) (by simp; omega) (HVN.out _ (bel1 _ _)) HONE.out (by unfold maxLen; omega) (by omega) (by simp) ?_; intro v5 w5 hown5 hgrow5 _; have F5 := hide (first5 hm0 (bel1 wr.drew (.cells #[] 3)) hown5 hgrow5 (by simp)); have HS5 := hide (HKP.out w5 F5.out.2); clear hown5 hgrow5)
              | (refine step_append_own (by rfl) _ _ 23 (by rfl) wr.heap.size 3 i0 (.int .i64 0) 1 8 Try.underlying23 hi0 hz0 hz1 hz2 rfl (by decide) _ 0 [] (by rfl) (own_drewS ((own_emptyS wr wr.heap.size (Nat.le_refl _)).alloc (.cells #[.int .i64 zs[j]] 3))) ad m capl (vs.map (Value.int .i64)) (by rfl) (by simp; omega) (HVN.out _ (bel_drewS (bel2 wr (.cells #[] 3) (.cells #[.int .i64 zs[j]] 3)))) HONE.out (by unfold maxLen; omega) (by omega) (by first | (simp; done) | (simp; omega)) ?_; intro v5 w5 hown5 hgrow5 _; have HLIT := hide (lit_kept2 hgrow5); have F5 := hide (first5 hm0 (bel_drewS (bel2 wr (.cells #[] 3) (.cells #[.int .i64 zs[j]] 3))) hown5 hgrow5 (by simp)); have HS5 := hide (HKP.out w5 F5.out.2); clear hown5 hgrow5)
              | (refine step_append_own (by rfl) _ _ 23 (by rfl) wr.heap.size 3 i0 (.int .i64 0) 1 8 Try.underlying23 hi0 hz0 hz1 hz2 rfl (by decide) _ 0 [] (by rfl) (own_drewS (own_emptyS1 wr (.cells #[.int .i64 zs[j]] 3) wr.heap.size (Nat.le_refl _))) ad m capl (vs.map (Value.int .i64)) (by rfl) (by simp; omega) (HVN.out _ (bel_drewS (bel2 wr (.cells #[.int .i64 zs[j]] 3) (.cells #[] 3)))) HONE.out (by unfold maxLen; omega) (by omega) (by first | (simp; done) | (simp; omega)) ?_; intro v5 w5 hown5 hgrow5 _; have HLIT := hide (lit_kept3 hgrow5); have F5 := hide (first5 hm0 (bel_drewS (bel2 wr (.cells #[.int .i64 zs[j]] 3) (.cells #[] 3))) hown5 hgrow5 (by simp)); have HS5 := hide (HKP.out w5 F5.out.2); clear hown5 hgrow5)
              | (refine step_append_own (by rfl) _ _ 23 (by rfl) wr.heap.size 3 i0 (.int .i64 0) 1 8 Try.underlying23 hi0 hz0 hz1 hz2 rfl (by decide) _ m (vs.map (Value.int .i64)) (by rfl) ((owns_row hm0 F5.out.1).alloc _) ⟨w5.heap.size, 0, none⟩ 1 1 [.int .i64 zs[j]] (by rfl) (by rfl) (World.news_of_block (cs := #[.int .i64 zs[j]]) (t := 3) (fr := (0, 0)) (heap_alloc_new w5 _)) (by simp [Value.oneCell']) (by unfold maxLen; omega) (by omega) (by have := F5.out.2.size; first | omega | (simp; omega)) ?_; intro v7 w7 hown7 hgrow7 _; obtain ⟨gg, cc, rfl, hgb, hgl⟩ := World.ownsRow.form hown7 (by omega); have F7 := hide (last7 hm0 F5.out (bel1 _ _) hown7 hgrow7); have HS7 := hide (HKP.out w7 F7.out.2); clear hown7 hgrow7 hgb hgl)
              | (refine step_append_own (by rfl) _ _ 23 (by rfl) wr.heap.size 3 i0 (.int .i64 0) 1 8 Try.underlying23 hi0 hz0 hz1 hz2 rfl (by decide) _ m (vs.map (Value.int .i64)) (by rfl) (owns_row hm0 F5.out.1) ⟨_, 0, none⟩ 1 1 [.int .i64 zs[j]] (by rfl) (by rfl) (World.news_of_block (cs := #[.int .i64 zs[j]]) (t := 3) (fr := (0, 0)) (HLIT.out)) (by simp [Value.oneCell']) (by unfold maxLen; omega) (by omega) (by have := F5.out.2.size; first | omega | (simp; omega)) ?_; intro v7 w7 hown7 hgrow7 _; obtain ⟨gg, cc, rfl, hgb, hgl⟩ := World.ownsRow.form hown7 (by omega); have F7 := hide (last7 hm0 F5.out (Below.refl _ _) hown7 hgrow7); have HS7 := hide (HKP.out w7 F7.out.2); clear hown7 hgrow7 hgb hgl)
              | (go_at_call 61; refine (HIH.out (vs ++ [zs[j]]) (m + 1) ⟨gg, 0, none⟩ cc w7 (HII.out w7 F7.out.2) (HIJ.out w7 F7.out.2) F7.out.1.ints HLN.out HK.out HR.out).mono ?_; rintro e w8 ⟨e8, b8⟩; rw [HE.out] at e8; subst e8; have B8 := hide (bnext F7.out.2 b8); have HS8 := hide (HKP.out w8 B8.out); clear b8))
          all_goals
            go_wp2
            go_ret
            exact ⟨ret_bool (all_false hlt HE.out).symm, (HS.out.below B8.out).1.2.2.2.2⟩
      · obtain rfl : j = zs.length := by omega
        obtain ⟨c0, c1, d0, d1⟩ := hs.1.cells
        go_wp2
        go_ret
        exact ⟨ret_bool (all_true HALL.out).symm, hs.1.2.2.2.2⟩
end Go.Proofs.Ytbmodiobgkmngaa
