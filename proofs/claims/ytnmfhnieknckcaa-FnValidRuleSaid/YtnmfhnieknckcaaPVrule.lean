/- The law of ValidRule answers true at every code: the draw with the room of its rule; its walk. -/
import Derived.Test.YtnmfhnieknckcaaDrawR3
import Derived.Test.YtnmfhnieknckcaaPNeut
import Derived.Test.YtnmfhnieknckcaaFlpI
import Derived.Test.YtnmfhnieknckcaaRuleV
import Derived.Deep.RegionHeld3
import Derived.Deep.QuietTactic
import Derived.BigQuiet
namespace Go.Proofs.Ytnmfhnieknckcaa
open Go.RowKit Go.Joins

/-- What the draw of a space and a rule leaves, with the room of the rule. -/
def DrawSRCPost (w : World) (e : Ending) (w' : World) : Prop :=
  ∃ (m : Int) (a : Option Addr) (zs : List Int) (cap : Nat) (v : Int) (b : Option Addr) (ws : List Int) (capb : Nat), e = .returned (.tuple #[.agg #[.int .i64 m, .slice a zs.length cap], .agg #[.int .i64 v, .slice b ws.length capb]]) ∧ Ints w' a zs ∧ zs.length ≤ 65 ∧ Ints w' b ws ∧ ws.length ≤ 8 ∧ ws.length ≤ capb ∧ Below w.heap.size w w'
set_option maxHeartbeats 4000000 in
set_option maxRecDepth 100000 in
theorem drawValidRuleC_any (a : Option Addr) (cap : Nat) (zs : List Nat) (w : World) (hi : Byts w a zs) (hl : zs.length ≤ 1048576) (hc : zs.length ≤ cap) :
    Calls Try.prog 29 #[.slice a zs.length cap] w (DrawSRCPost w) := by
  have b0 := bel2 w (.cells #[.int .i64 0, .slice none 0 0] 25) (.cells #[.int .i64 0, .slice none 0 0] 27)
  have h0 := ((bel1 (w.alloc (.cells #[.int .i64 0, .slice none 0 0] 25)) (.cells #[.int .i64 0, .slice none 0 0] 27)).block w.heap.size (by simp)).trans (heap_alloc_new w (.cells #[.int .i64 0, .slice none 0 0] 25))
  have k0 := heap_alloc_new (w.alloc (.cells #[.int .i64 0, .slice none 0 0] 25)) (.cells #[.int .i64 0, .slice none 0 0] 27)
  simp only [World.size_alloc] at k0
  have hib := hi.below b0
  have H0 := hide h0
  have K0 := hide k0
  have HB0 := hide b0
  clear hi h0 b0 k0
  go_enter Try.func29, Try.ntmps29
  go_wp2_with fail
  refine (newReader_any _ _ _ _ hib hl hc).mono ?_
  rintro e w1 ⟨R, rfl, hR, rd, B⟩
  have hR' : w.heap.size + 2 ≤ R := by simpa using hR
  have HR := hide hR'
  have s1 := (B.block w.heap.size (by simp; omega)).trans H0.out
  have t1 := (B.block (w.heap.size + 1) (by simp)).trans K0.out
  have hs1 := lt_of_block t1
  have B1 := hide (bnext HB0.out B)
  have HS1 := hide s1
  have HT1 := hide t1
  clear hR hR' B hib s1 t1
  go_wp2_with fail
  refine (someRule_any R 0 _ rd (by omega)).mono ?_
  rintro e w2 ⟨m, v, ss, k, vv, ws, rfl, own, own2, hsl, hw, _, g, rd2⟩
  obtain ⟨av, cv, rfl, iv, hge⟩ := own.form
  obtain ⟨aw, cw, rfl, iw, hge2⟩ := own2.form
  have s2 := (g.block w.heap.size (by omega) (by have := HR.out; simp; omega)).trans HS1.out
  have t2 := (g.block (w.heap.size + 1) hs1 (by have := HR.out; simp; omega)).trans HT1.out
  have B2 := hide (bgrown B1.out g B1.out.size (fun j hj => by cases hj; have := HR.out; omega))
  have q0 := cell_of_block s2 0
  have q1 := cell_of_block s2 1
  have k0 := unfrozen_of_block s2 0
  have k1 := unfrozen_of_block s2 1
  have p0 := cell_of_block t2 0
  have p1 := cell_of_block t2 1
  have o0 := unfrozen_of_block t2 0
  have o1 := unfrozen_of_block t2 1
  have OV := hide (own.le (show w.heap.size + 2 ≤ w1.heap.size by omega))
  have OW := hide (own2.le (show w.heap.size + 2 ≤ w1.heap.size by omega))
  have S2 := hide s2
  have T2 := hide t2
  have hcap := Owns.cap own2
  clear own own2 iv iw hge hge2 g rd rd2 B1 HS1 HT1 s2 t2 hs1 HR
  go_wp2_with fail
  have hne : w.heap.size ≠ w.heap.size + 1 := by omega
  have hF : ∀ x y z u : Value, ((((w2.setCell ⟨w.heap.size, 0, none⟩ x).setCell ⟨w.heap.size, 1, none⟩ y).setCell ⟨w.heap.size + 1, 0, none⟩ z).setCell ⟨w.heap.size + 1, 1, none⟩ u).heap[w.heap.size]? = some (.cells #[x, y] 25 (0, 0)) ∧ ((((w2.setCell ⟨w.heap.size, 0, none⟩ x).setCell ⟨w.heap.size, 1, none⟩ y).setCell ⟨w.heap.size + 1, 0, none⟩ z).setCell ⟨w.heap.size + 1, 1, none⟩ u).heap[w.heap.size + 1]? = some (.cells #[z, u] 27 (0, 0)) := fun x y z u => by
    have a1 := block_setCell (i := 1) (block_setCell (i := 0) S2.out x) y
    have a2 := (Below.heap_setCell (w2.setCell ⟨w.heap.size, 0, none⟩ x) ⟨w.heap.size, 1, none⟩ y _ (show w.heap.size + 1 ≠ w.heap.size by omega)).trans ((Below.heap_setCell w2 ⟨w.heap.size, 0, none⟩ x _ (show w.heap.size + 1 ≠ w.heap.size by omega)).trans T2.out)
    exact ⟨(Below.heap_setCell _ ⟨w.heap.size + 1, 1, none⟩ u _ hne).trans ((Below.heap_setCell _ ⟨w.heap.size + 1, 0, none⟩ z _ hne).trans a1), block_setCell (i := 1) (block_setCell (i := 0) a2 z) u⟩
  refine bodyPost_ret (ret_bothR rfl _ _ _ _ _ _ _ _ rfl rfl (hF _ _ _ _).1 (hF _ _ _ _).2) rfl ?_
  refine ⟨m, av, ss, cv, k, aw, ws, cw, rfl, ((OV.out.set2 (g := w.heap.size) (by omega) _ _).set2 (g := w.heap.size + 1) (by omega) _ _).ints, hsl.1, ((OW.out.set2 (g := w.heap.size) (by omega) _ _).set2 (g := w.heap.size + 1) (by omega) _ _).ints, hw, hcap, ?_⟩
  exact (((B2.out.setCell (p := ⟨w.heap.size, 0, none⟩) (Nat.le_refl _) _).setCell (p := ⟨w.heap.size, 1, none⟩) (Nat.le_refl _) _).setCell (p := ⟨w.heap.size + 1, 0, none⟩) (by show w.heap.size ≤ w.heap.size + 1; omega) _).setCell (p := ⟨w.heap.size + 1, 1, none⟩) (by show w.heap.size ≤ w.heap.size + 1; omega) _
theorem pk_valid {p : Nat → Bool} {M : Nat} (hM : 1 ≤ M ∧ M ≤ 4) (h : 0 < (pkK p (2 ^ M)).length) : Valid (M : Int) (pkK p (2 ^ M)) := by
  have hasc := List.pairwise_iff_getElem.1 (pkK_asc p (2 ^ M))
  have e : pw (M : Int) = ((2 ^ M : Nat) : Int) := by unfold pw; rw [Int.toNat_natCast]
  refine ⟨by omega, h, fun i hi => ⟨?_, fun h0 => ?_⟩⟩
  · obtain ⟨u, h1, _, h3⟩ := pkK_mem.1 (List.getElem_mem hi)
    rw [getD_lt hi, e]
    omega
  · rw [getD_lt hi, getD_lt (by omega)]
    exact hasc (i - 1) i (by omega) hi (by omega)
theorem drop_len {N j : Nat} {zs : List Int} (hV : Valid (N : Int) zs) : 0 < (unq (zs.map (dropI j))).length := by
  have h0 := hV.2.1
  have hm := ((unq_facts (zs.map (dropI j))).2 (dropI j zs[0])).2 (List.mem_map_of_mem (List.getElem_mem h0))
  exact List.length_pos_of_mem hm
theorem drop_valid {N j : Nat} {zs : List Int} (hV : Valid (N : Int) zs) (hj : j < N) (h2 : 2 ≤ N) : Valid ((N - 1 : Nat) : Int) (unq (zs.map (dropI j))) := by
  have hN : N ≤ 4 := by have := hV.1; omega
  have h := drop_len (j := j) hV
  rw [drop_pk hV hj] at h ⊢
  exact pk_valid (by omega) h
/-- a rule without its last issue is one of the space without it -/
theorem rule_cut {n v : Int} {zs ws : List Int} (hv : vrB n zs v ws = true) (h2 : 2 ≤ n) : vrB (n - 1) (unq (zs.map (dropI (n - 1).toNat))) v (ws.take (ws.length - 1)) = true := by
  obtain ⟨hV, hr⟩ := vr_of hv
  obtain ⟨N, rfl⟩ : ∃ N : Nat, n = (N : Int) := ⟨n.toNat, by have := hV.1; omega⟩
  have hl := hr.2.1
  have e1 : ((N : Int) - 1).toNat = N - 1 := by omega
  have e2 : ((N : Int) - 1) = ((N - 1 : Nat) : Int) := by omega
  rw [e1, e2]
  refine vr_mk (drop_valid hV (by omega) (by omega)) ⟨hr.1, by rw [List.length_take]; omega, fun j hj => ?_⟩
  rw [List.length_take] at hj
  have h := hr.2.2 j (by omega)
  rw [getD_lt (by omega)] at h
  rw [getD_lt (by rw [List.length_take]; omega), List.getElem_take]
  exact h
theorem ints_take {w : World} {b : Option Addr} {ws : List Int} (h : Ints w b ws) (k : Nat) : Ints w b (ws.take k) := fun h0 => by
  rw [List.length_take] at h0
  obtain ⟨g, o, rfl, hb, hc⟩ := h (by omega)
  refine ⟨g, o, rfl, hb, fun j hj => ?_⟩
  rw [List.length_take] at hj
  rw [hc j (by omega), getD_lt (by omega), getD_lt (by rw [List.length_take]; omega), List.getElem_take]
theorem specRuleV_was (n v : Int) (a b : Option Addr) (cap capb : Nat) (zs ws : List Int) (w : World) (r : Bool) (hi : Ints w a zs) (hj : Ints w b ws) (hn : zs.length ≤ 1048576) (hm : ws.length ≤ 1048576) (hr : vrB n zs v ws = r) :
    Calls Try.prog 30 #[.agg #[.int .i64 n, .slice a zs.length cap], .agg #[.int .i64 v, .slice b ws.length capb]] w fun e w' => e = .returned (.bool r) ∧ Below w.heap.size w w' := by
  subst hr
  exact specValidRule_any n v a b cap capb zs ws w hi hj hn hm
theorem implRuleV_was (n v : Int) (a b : Option Addr) (cap capb k : Nat) (zs ws : List Int) (w : World) (r : Bool) (hi : Ints w a zs) (hj : Ints w b ws) (hn : zs.length ≤ 1048576) (hm : ws.length ≤ 1048576) (hk : ws.length = k) (hr : vrB n zs v ws = r) :
    Calls Try.prog 13 #[.agg #[.int .i64 n, .slice a zs.length cap], .agg #[.int .i64 v, .slice b k capb]] w fun e w' => e = .returned (.bool r) ∧ Below w.heap.size w w' := by
  subst hr hk
  exact implValidRule_any n v a b cap capb zs ws w hi hj hn hm
set_option maxHeartbeats 8000000 in
set_option maxRecDepth 100000 in
theorem walk_FnValidRule (a : Option Addr) (zs : List Nat) (cap : Nat) (w : World) (hi : Byts w a zs) (hl : zs.length ≤ maxLen) (hc : zs.length ≤ cap) :
    Calls Try.prog 7 #[.slice a zs.length cap] w fun e w' => e = .returned (.bool true) ∧ Below w.heap.size w w' := by
  by_cases h : 1048576 < zs.length
  · unfold maxLen at hl
    go_enter Try.func7, Try.ntmps7
    go_wp2
    go_ret
    exact ⟨rfl, Below.refl _ _⟩
  · have hl' : zs.length ≤ 1048576 := by omega
    clear h hl
    go_enter Try.func7, Try.ntmps7
    go_wp2_with fail
    refine (drawValidRuleC_any _ _ _ _ hi hl' hc).mono ?_
    rintro e w1 ⟨m, av, ss, cv, v, bv, ws, cb, rfl, iv, hsl, iw, hwl, hcb, hb⟩
    have S0 := SR.new w1 m v av bv ss ws cv cb 25 27 iv iw
    have HB := hide hb
    have hn : ss.length ≤ 1048576 := by omega
    have hm : ws.length ≤ 1048576 := by omega
    clear hb hi iv iw hl' hsl hwl
    obtain ⟨c0, c1, d0, d1⟩ := S0.cells5
    by_cases hv : vrB m ss v ws = false
    · have HV := hide hv
      clear hv
      go_wp2_with fail
      refine (implRule_was _ _ _ _ _ _ _ _ _ _ S0.2.2.1 S0.2.2.2.1 hn hm HV.out).mono ?_
      rintro e w2 ⟨rfl, b2⟩
      have S2 := S0.below b2
      clear c0 c1 d0 d1 S0 b2
      obtain ⟨c0, c1, d0, d1⟩ := S2.cells5
      go_wp2_with fail
      refine (specRuleV_was _ _ _ _ _ _ _ _ _ _ S2.2.2.1 S2.2.2.2.1 hn hm HV.out).mono ?_
      rintro e w3 ⟨rfl, b3⟩
      have S3 := S2.below b3
      clear c0 c1 d0 d1 S2 b3
      obtain ⟨c0, c1, d0, d1⟩ := S3.cells5
      go_wp2_with fail
      refine (specRuleV_was _ _ _ _ _ _ _ _ _ _ S3.2.2.1 S3.2.2.2.1 hn hm HV.out).mono ?_
      rintro e w4 ⟨rfl, b4⟩
      go_wp2
      go_ret
      exact ⟨rfl, bnext HB.out (S3.below b4).2.2.2.2⟩
    · have hv : vrB m ss v ws = true := by simpa using hv
      have HV := hide hv
      obtain ⟨hV, hr⟩ := vr_of hv
      have hml := hr.2.1
      have hm4 := hV.1
      obtain rfl : m = (ws.length : Int) := by omega
      have hw1 : 1 ≤ ws.length ∧ ws.length ≤ 4 := by omega
      have hhi : hiB (ws.length : Int) ss ((ws.length : Int) - 1) = true := hiB_iff.2 ⟨vsB_true hV, by omega, by omega⟩
      clear hv hV hr hml hm4
      go_wp2_with fail
      refine (implRule_was _ _ _ _ _ _ _ _ _ _ S0.2.2.1 S0.2.2.2.1 hn hm HV.out).mono ?_
      rintro e w2 ⟨rfl, b2⟩
      have S2 := S0.below b2
      clear c0 c1 d0 d1 S0 b2
      obtain ⟨c0, c1, d0, d1⟩ := S2.cells5
      go_wp2_with fail
      refine (specRuleV_was _ _ _ _ _ _ _ _ _ _ S2.2.2.1 S2.2.2.2.1 hn hm HV.out).mono ?_
      rintro e w3 ⟨rfl, b3⟩
      have S3 := S2.below b3
      clear c0 c1 d0 d1 S2 b3
      obtain ⟨c0, c1, d0, d1⟩ := S3.cells5
      by_cases h1 : ws.length = 1
      · have HNO := hide (show dpB 1 ss 0 = false by unfold dpB; rw [decide_eq_false (by omega), Bool.and_false])
        have HN := hide (show dpN 1 ss 0 = 0 by unfold dpN; rw [if_neg (by rw [HNO.out]; decide)])
        have HL := hide (show dpL 1 ss 0 = [] by unfold dpL; rw [if_neg (by rw [HNO.out]; decide)])
        have h1i : ((ws.length : Int) == 1) = true := by rw [h1]; rfl
        go_wp2_with fail
        refine (implDropIssue_any _ _ _ _ _ _ S3.2.2.1 hn).mono ?_
        rw [HN.out, HL.out, HNO.out]
        rintro e w4 ⟨vl, rfl, ol, b4⟩
        obtain ⟨la, lc, rfl, _, _⟩ := ol.form
        have S4 := S3.below (bnext b4 (bel1 w4 (.cells #[.int .i64 0, .slice la ([] : List Int).length lc] 25)))
        clear c0 c1 d0 d1 S3 b4 ol
        obtain ⟨c0, c1, d0, d1⟩ := S4.cells5
        go_wp2_with fail
        go_quiet (fail)
        go_wp2
        go_ret
        exact ⟨ret_bool (by first | rfl | simp [h1] | simpa using h1), bnext HB.out (S4.below (belN _ _)).2.2.2.2⟩
      · obtain ⟨K, hK⟩ : ∃ K, K = ws.length - 1 := ⟨_, rfl⟩
        have hke : (ws.length : Int) - 1 = (K : Int) := by omega
        rw [hke] at hhi
        have hdp : dpB (ws.length : Int) ss (K : Int) = true := by unfold dpB; rw [hhi, decide_eq_true (by omega)]; rfl
        have HDP := hide hdp
        have HN := hide (show dpN (ws.length : Int) ss (K : Int) = (K : Int) by unfold dpN; rw [if_pos hdp]; exact hke)
        have HL := hide (show dpL (ws.length : Int) ss (K : Int) = unq (ss.map (dropI K)) by unfold dpL; rw [if_pos hdp, Int.toNat_natCast])
        have HCUT := hide (show vrB (K : Int) (unq (ss.map (dropI K))) v (ws.take (ws.length - 1)) = true by
          have h := rule_cut HV.out (show (2 : Int) ≤ (ws.length : Int) by omega)
          rw [hke, Int.toNat_natCast] at h
          exact h)
        have HLL := hide (show (unq (ss.map (dropI K))).length ≤ 1048576 from Nat.le_trans (unq_len _) (by rw [List.length_map]; exact hn))
        obtain ⟨L, hL⟩ : ∃ L, L = unq (ss.map (dropI K)) := ⟨_, rfl⟩
        rw [← hL] at HL HCUT HLL
        have h1i : ((ws.length : Int) == 1) = false := by
          rw [beq_eq_false_iff_ne]
          omega
        have HTK := hide (show (ws.take (ws.length - 1)).length = K by rw [List.length_take]; omega)
        have hk0 : (0 : Int) ≤ (K : Int) := by omega
        have hkb : (K : Int) ≤ (cb : Int) := by omega
        have hk1 : (K : Int) ≤ 4 := by omega
        have hwk : IntKind.i64.wrap (K : Int) = (K : Int) := by rw [IntKind.wrap_i64]; omega
        clear hdp hL hhi hK
        go_wp2_with fail
        refine (implDropIssue_any _ _ _ _ _ _ S3.2.2.1 hn).mono ?_
        rw [HN.out, HL.out, HDP.out]
        rintro e w4 ⟨vl, rfl, ol, b4⟩
        obtain ⟨la, lc, rfl, il, _⟩ := ol.form
        have hB4 := bnext b4 (bel1 w4 (.cells #[.int .i64 (K : Int), .slice la L.length lc] 25))
        have S4 := S3.below hB4
        have bx4 := Box.new w4 (K : Int) la L.length lc 25
        have il4 := il.below (bel1 w4 (.cells #[.int .i64 (K : Int), .slice la L.length lc] 25))
        clear c0 c1 d0 d1 S3 b4 ol il hB4
        go_wp2_with fail
        have SD := hide (S4.below (bdrew' (Below.refl _ _)))
        have XD := hide (bx4.below (bdrew' (Below.refl _ _)))
        have ILD := hide (il4.below (bdrew' (Below.refl _ _)))
        obtain ⟨_, _, y0, y1⟩ := SD.out.cells5
        obtain ⟨_, z0, z1⟩ := XD.out.pair
        have K0 := hide (And.intro z0 (And.intro z1 (And.intro y0 y1)))
        clear y0 y1 z0 z1 S4 bx4 il4
        go_region_held3 (fun w' => w'.cell? ⟨w4.heap.size, 0, none⟩ = some (.int .i64 (K : Int)) ∧ w'.cell? ⟨w4.heap.size, 1, none⟩ = some (.slice la L.length lc) ∧ w'.cell? ⟨w1.heap.size + 1, 0, none⟩ = some (.int .i64 v) ∧ w'.cell? ⟨w1.heap.size + 1, 1, none⟩ = some (.slice bv ws.length cb))
          (first | exact K0.out | exact K5.out | go_keep)
          ((go_at_call 13; refine (implRuleV_was _ _ _ _ _ _ _ _ (ws.take (ws.length - 1)) _ true ILD.out (ints_take SD.out.2.2.2.1 _) HLL.out (by rw [HTK.out]; omega) HTK.out HCUT.out).mono ?_; rintro e w5 ⟨rfl, b5⟩; have S5 := hide (SD.out.below b5); have X5 := hide (XD.out.below b5); have K5 := hide (And.intro X5.out.pair.2.1 (And.intro X5.out.pair.2.2 (And.intro S5.out.cells5.2.2.1 S5.out.cells5.2.2.2))); clear b5))
        all_goals
          go_wp2
          go_ret
          exact ⟨ret_bool (by first | rfl | simp), bnext HB.out S5.out.2.2.2.2⟩
end Go.Proofs.Ytnmfhnieknckcaa
