/- What the exact law asks of lists of rules: the same, marked, still so marked. -/
import Derived.Test.YtbmodiobgkmngaaRls
import Derived.Deep.RegionHeld3
import Derived.Deep.RegionWith
namespace Go.Proofs.Ytbmodiobgkmngaa
open Go.RowKit Go.Joins

set_option maxHeartbeats 4000000 in
set_option maxRecDepth 100000 in
theorem eqRuleS_yes (B B' : Nat) (vx vy : Value) (xs ys : List RT) (w : World) (hx : RL w B vx xs) (hy : RL w B' vy ys) (hk : keys xs = keys ys) (hn : xs.length ≤ 1048576) (hl : ∀ t ∈ xs, t.2.1.length ≤ 4) :
    Calls Try.prog 17 #[vx, vy] w fun e w' => e = .returned (.bool true) ∧ Below w.heap.size w w' := by
  have hlen : xs.length = ys.length := by simpa [keys] using congrArg List.length hk
  have HE : Hid (∀ k (h1 : k < xs.length) (h2 : k < ys.length), xs[k].1 = ys[k].1 ∧ xs[k].2.1 = ys[k].2.1) := fun k h1 h2 => by
    have e := congrArg (fun l => l[k]?) hk
    simp only [keys, List.getElem?_map, List.getElem?_eq_getElem h1, List.getElem?_eq_getElem h2, Option.map_some, Option.some.injEq, Prod.mk.injEq] at e
    exact e
  have HX := hide hx
  have HY := hide hy
  have HL := hide hl
  obtain ⟨a, ca, rfl, ha⟩ := hx.form
  obtain ⟨b, cb, rfl, hb⟩ := hy.form
  have HA := hide ha
  have HB := hide hb
  have HLEN := hide hlen
  obtain ⟨n, hnn⟩ : ∃ n, ys.length = n := ⟨_, rfl⟩
  have hne : ((xs.length : Int) != (n : Int)) = false := by rw [hlen, hnn]; simp
  rw [hnn]
  clear hx hy hl hk ha hb hlen
  go_enter Try.func17, Try.ntmps17
  go_wp2_with fail
  go_loopw [5] (fun i wr => ∃ k : Nat, k ≤ xs.length ∧ i = .int .i64 k ∧ Below w.heap.size w wr) (fun i _ => xs.length - (intOf i).toNat)
  case atStart => exact ⟨0, Nat.zero_le _, rfl, Below.refl _ _⟩
  case round =>
    obtain ⟨k, hk, rfl, hb⟩ := hrel
    have HBL := hide hb
    by_cases hlt : k < xs.length
    · have hlt2 : k < n := by have := HLEN.out; omega
      have hlt3 : k < ys.length := by omega
      obtain ⟨g, rfl, _, hgl⟩ := HA.out (by omega)
      obtain ⟨g', rfl, _, hgl'⟩ := HB.out (by omega)
      obtain ⟨p0, p1, ix⟩ := (HX.out.below hb).at k hlt
      obtain ⟨q0, q1, iy⟩ := (HY.out.below hb).at k hlt3
      obtain ⟨e1, e2⟩ := HE.out k hlt hlt3
      have hl4 := HL.out _ (List.getElem_mem hlt)
      rw [← e1] at q0
      rw [← e2] at q1 iy
      clear e1 e2
      obtain ⟨x, hx⟩ : ∃ x, xs[k].1 = x := ⟨_, rfl⟩
      obtain ⟨ws, hw⟩ : ∃ x, xs[k].2.1 = x := ⟨_, rfl⟩
      obtain ⟨b1, hb1⟩ : ∃ x, xs[k].2.2.1 = x := ⟨_, rfl⟩
      obtain ⟨c1, hc1⟩ : ∃ x, xs[k].2.2.2 = x := ⟨_, rfl⟩
      obtain ⟨b2, hb2⟩ : ∃ x, ys[k].2.2.1 = x := ⟨_, rfl⟩
      obtain ⟨c2, hc2⟩ : ∃ x, ys[k].2.2.2 = x := ⟨_, rfl⟩
      rw [hx] at p0 q0
      rw [hw, hb1, hc1] at p1
      rw [hw, hb2, hc2] at q1
      rw [hw, hb1] at ix
      rw [hw, hb2] at iy
      rw [hw] at hl4
      clear hx hw hb1 hc1 hb2 hc2 hlt3
      have hgw : g < wr.heap.size := by have := hb.size; omega
      have hgw' : g' < wr.heap.size := by have := hb.size; omega
      have HIX := hide ix
      have HIY := hide iy
      clear ix iy hb
      go_wp2
      go_region_held3 (fun W => W.cell? ⟨g, k * 2, none⟩ = some (.int .i64 x) ∧ W.cell? ⟨g, k * 2 + 1, none⟩ = some (.slice (some ⟨b1, 0, none⟩) ws.length c1) ∧ W.cell? ⟨g', k * 2, none⟩ = some (.int .i64 x) ∧ W.cell? ⟨g', k * 2 + 1, none⟩ = some (.slice (some ⟨b2, 0, none⟩) ws.length c2)) (first | exact ⟨p0, p1, q0, q1⟩ | exact K1.out) ((go_at_call 45; (with_reducible refine (eqRule_yes _ _ _ _ _ _ _ (by exact HIX.out.below (bdrew' (Below.refl _ _))) (by exact HIY.out.below (bdrew' (Below.refl _ _))) (by omega)).mono ?_); rintro e w5 ⟨rfl, b5⟩; have B5 := hide b5; have K1 : Hid (w5.cell? ⟨g, k * 2, none⟩ = some (.int .i64 x) ∧ w5.cell? ⟨g, k * 2 + 1, none⟩ = some (.slice (some ⟨b1, 0, none⟩) ws.length c1) ∧ w5.cell? ⟨g', k * 2, none⟩ = some (.int .i64 x) ∧ w5.cell? ⟨g', k * 2 + 1, none⟩ = some (.slice (some ⟨b2, 0, none⟩) ws.length c2)) := ⟨(b5.cell (p := ⟨g, k * 2, none⟩) hgw).trans p0, (b5.cell (p := ⟨g, k * 2 + 1, none⟩) hgw).trans p1, (b5.cell (p := ⟨g', k * 2, none⟩) hgw').trans q0, (b5.cell (p := ⟨g', k * 2 + 1, none⟩) hgw').trans q1⟩; clear b5))
      all_goals
        go_wp2
        go_roundw
        case rel => exact ⟨k + 1, by omega, by go_num, bnext HBL.out (bdrew B5.out)⟩
        case measure => simp only [intOf]; omega
    · obtain rfl : k = xs.length := by omega
      go_wp2
      go_ret
      exact ⟨rfl, HBL.out⟩
set_option maxHeartbeats 4000000 in
set_option maxRecDepth 100000 in
theorem markRuleS_any (B : Nat) (v : Value) (ts : List RT) (k : Int) (w : World) (ho : RO w B v ts) (hB : B ≤ w.heap.size) (hn : ts.length ≤ 100000) (hl : ∀ t ∈ ts, t.2.1.length ≤ 4) (h0 : 0 ≤ k) (h1 : k ≤ 1000) :
    Calls Try.prog 20 #[v, .int .i64 k] w fun e w' => e = .returned (.int .i64 (k + (sizeT ts : Nat))) ∧ RO w' B v (mkT k ts ts.length) ∧ Below B w w' := by
  have HL := hide hl
  have HO := hide ho
  obtain ⟨a, ca, rfl, ha⟩ := ho.1.form
  have HA := hide ha
  clear ha hl ho
  go_enter Try.func20, Try.ntmps20
  go_wp2_with fail
  go_loopw [1, 5] (fun kk i wr => ∃ j : Nat, j ≤ ts.length ∧ i = .int .i64 j ∧ kk = .int .i64 (k + (sizeT (ts.take j) : Nat)) ∧ RO wr B (.slice a ts.length ca) (mkT k ts j) ∧ Below B w wr) (fun _ i _ => ts.length - (intOf i).toNat)
  case atStart => exact ⟨0, Nat.zero_le _, rfl, by simp [sizeT], by rw [mkT_zero]; exact HO.out, Below.refl _ _⟩
  case round =>
    obtain ⟨j, hj, rfl, rfl, hro, hb⟩ := hrel
    have HBL := hide hb
    have HRO := hide hro
    by_cases hlt : j < ts.length
    · obtain ⟨g, rfl, hgB, hgl⟩ := HA.out (by omega)
      have hus : (mkT k ts j).length = ts.length := mkT_len k ts j
      obtain ⟨us, hu⟩ : ∃ us, mkT k ts j = us := ⟨_, rfl⟩
      have hju : j < us.length := by rw [← hu, hus]; exact hlt
      have huj : us[j] = ts[j] := by
        have := mkT_at (k := k) (i := j) hlt
        rw [if_neg (by omega)] at this
        simpa [hu] using this
      have hsz := size_take_le (i := j) HL.out
      have hnext := mkT_succ (k := k) hlt
      rw [hu] at hro hnext hus
      rw [← hus] at hro
      obtain ⟨S, hS⟩ : ∃ S, sizeT (ts.take j) = S := ⟨_, rfl⟩
      rw [hS] at hsz hnext ⊢
      have hl4 := HL.out _ (List.getElem_mem hlt)
      obtain ⟨p0, p1, _⟩ := hro.1.at j hju
      have f0 := hro.1.1.frozenAt (j * 2)
      obtain ⟨hro1, hg1⟩ := hro.setV j hju (k + (S : Int))
      have hro1' : RO (wr.setCell ⟨g, j * 2, none⟩ (.int .i64 (k + (S : Int)))) B (.slice (some ⟨g, 0, none⟩) (us.set j (k + (S : Int), us[j].2)).length ca) (us.set j (k + (S : Int), us[j].2)) := by rw [List.length_set]; exact hro1
      have hj1 : j < (us.set j (k + (S : Int), us[j].2)).length := by rw [List.length_set]; exact hju
      obtain ⟨q0, q1, _⟩ := hro1'.1.at j hj1
      have ow := hro1'.1.2 _ (List.getElem_mem hj1)
      have e1 : (us.set j (k + (S : Int), us[j].2))[j] = (k + (S : Int), ts[j].2) := by rw [List.getElem_set_self, huj]
      rw [e1] at q0 q1 ow
      have hSn : sizeT (ts.take (j + 1)) = S + (ts[j].2.1.length + 1) := by rw [sizeT_take hlt, hS]
      have HSN := hide hSn
      have HRO1 := hide hro1'
      have HNX := hide hnext
      have HB1 := hide (show Below B w (wr.setCell ⟨g, j * 2, none⟩ (.int .i64 (k + (S : Int)))) from hb.setCell (p := ⟨g, j * 2, none⟩) hgB _)
      have HUJ := hide huj
      have HE1 := hide e1
      have HUS := hide hus
      clear hSn hro1' hro1 hnext hg1 hro e1 hS hu huj
      obtain ⟨b1, hb1⟩ : ∃ x, ts[j].2.2.1 = x := ⟨_, rfl⟩
      obtain ⟨c1, hc1⟩ : ∃ x, ts[j].2.2.2 = x := ⟨_, rfl⟩
      obtain ⟨ws, hw⟩ : ∃ x, ts[j].2.1 = x := ⟨_, rfl⟩
      simp only [hb1, hc1, hw] at q1 ow hl4
      have HOW := hide ow
      have HB1e := hide hb1
      have HC1e := hide hc1
      have HWe := hide hw
      clear ow hb1 hc1 hw hb
      go_wp2_with fail
      refine (markIntS_any _ _ _ _ _ HOW.out (by omega) (by omega) (by omega)).mono ?_
      rintro e w2 ⟨rfl, om, g2⟩
      have hE := HE1.out
      have hl' : (marks (k + (S : Int) + 1) ws.length).length = (us.set j (k + (S : Int), us[j].2))[j].2.1.length := by rw [hE, marks_length]; show _ = ts[j].2.1.length; rw [HWe.out]
      have hg' : (wr.setCell ⟨g, j * 2, none⟩ (.int .i64 (k + (S : Int)))).grownBy w2 (some (us.set j (k + (S : Int), us[j].2))[j].2.2.1) := by rw [hE]; show World.grownBy _ _ (some ts[j].2.2.1); rw [HB1e.out]; exact g2
      have ho' : Owns w2 B (.slice (some ⟨(us.set j (k + (S : Int), us[j].2))[j].2.2.1, 0, none⟩) (us.set j (k + (S : Int), us[j].2))[j].2.1.length (us.set j (k + (S : Int), us[j].2))[j].2.2.2) (marks (k + (S : Int) + 1) ws.length) := by rw [hE]; simp only [HB1e.out, HC1e.out, HWe.out]; exact om
      have h := HRO1.out.setW j hj1 _ hl' hg' ho'
      rw [List.set_set, hE, List.length_set, HUS.out] at h
      have hnx := HNX.out
      rw [HWe.out] at hnx
      have h' : RO w2 B (.slice (some ⟨g, 0, none⟩) ts.length ca) (mkT k ts (j + 1)) := by rw [← hnx]; exact h
      have HR2 := hide h'
      have HB2 := hide (HB1.out.grown g2 (Nat.le_trans hB HB1.out.size) (fun q hq => own_ge HOW.out q hq))
      clear h h' hnx hE hl' hg' ho' om g2
      go_wp2
      go_roundw
      case rel => exact ⟨j + 1, by omega, by go_num, by rw [HSN.out, HWe.out]; go_num, HR2.out, HB2.out⟩
      case measure => simp only [intOf]; omega
    · obtain rfl : j = ts.length := by omega
      go_wp2
      go_ret
      exact ⟨ret_int (by rw [sizeT_all]), HRO.out, HBL.out⟩
set_option maxHeartbeats 4000000 in
set_option maxRecDepth 100000 in
theorem heldRuleS_yes (B : Nat) (v : Value) (ts : List RT) (k : Int) (w : World) (ho : RL w B v (mkT k ts ts.length)) (hn : ts.length ≤ 100000) (hl : ∀ t ∈ ts, t.2.1.length ≤ 4) (h0 : 0 ≤ k) (h1 : k ≤ 1000) :
    Calls Try.prog 21 #[v, .int .i64 k] w fun e w' => e = .returned (.int .i64 (k + (sizeT ts : Nat))) ∧ Below w.heap.size w w' := by
  have HL := hide hl
  have HO := hide ho
  obtain ⟨a, ca, rfl, ha⟩ := ho.form
  rw [mkT_len] at ha HO ⊢
  have HA := hide ha
  clear ha hl ho
  go_enter Try.func21, Try.ntmps21
  go_wp2_with fail
  go_loopw [1, 5] (fun kk i wr => ∃ j : Nat, j ≤ ts.length ∧ i = .int .i64 j ∧ kk = .int .i64 (k + (sizeT (ts.take j) : Nat)) ∧ Below w.heap.size w wr) (fun _ i _ => ts.length - (intOf i).toNat)
  case atStart => exact ⟨0, Nat.zero_le _, rfl, by simp [sizeT], Below.refl _ _⟩
  case round =>
    obtain ⟨j, hj, rfl, rfl, hb⟩ := hrel
    have HBL := hide hb
    by_cases hlt : j < ts.length
    · obtain ⟨g, rfl, hgB, hgl⟩ := HA.out (by omega)
      have hro : RL wr B (.slice (some ⟨g, 0, none⟩) (mkT k ts ts.length).length ca) (mkT k ts ts.length) := by rw [mkT_len]; exact HO.out.below hb
      obtain ⟨p0, p1, iw⟩ := hro.at j (by rw [mkT_len]; exact hlt)
      have e1 := mkT_at (k := k) (i := ts.length) hlt
      rw [if_pos hlt] at e1
      rw [e1] at p0 p1 iw
      have hsz := size_take_le (i := j) HL.out
      have hl4 := HL.out _ (List.getElem_mem hlt)
      have hSn : sizeT (ts.take (j + 1)) = sizeT (ts.take j) + (ts[j].2.1.length + 1) := sizeT_take hlt
      have HSN := hide hSn
      obtain ⟨S, hS⟩ : ∃ S, sizeT (ts.take j) = S := ⟨_, rfl⟩
      rw [hS] at hsz p0 p1 iw HSN ⊢
      obtain ⟨b1, hb1⟩ : ∃ x, ts[j].2.2.1 = x := ⟨_, rfl⟩
      obtain ⟨c1, hc1⟩ : ∃ x, ts[j].2.2.2 = x := ⟨_, rfl⟩
      obtain ⟨n1, hw⟩ : ∃ x, ts[j].2.1.length = x := ⟨_, rfl⟩
      simp only [hb1, hc1, hw, marks_length] at p0 p1 iw hl4 HSN
      have hne : (k + (S : Int) != k + (S : Int)) = false := by simp
      have hng : ¬ k + (S : Int) + 1 + (n1 : Int) < 0 := by omega
      have HIW := hide iw
      clear iw hro e1 hS hb1 hc1 hw hb hSn
      go_wp2_with fail
      refine (held_yes _ _ _ _ _ HIW.out (by omega) (by omega) (by omega)).mono ?_
      rintro e w2 ⟨rfl, b2⟩
      have B2 := hide (bnext HBL.out b2)
      clear b2
      go_wp2
      go_roundw
      case rel => exact ⟨j + 1, by omega, by go_num, by rw [HSN.out]; go_num, B2.out⟩
      case measure => simp only [intOf]; omega
    · obtain rfl : j = ts.length := by omega
      go_wp2
      go_ret
      exact ⟨ret_int (by rw [sizeT_all]), HBL.out⟩
end Go.Proofs.Ytbmodiobgkmngaa
