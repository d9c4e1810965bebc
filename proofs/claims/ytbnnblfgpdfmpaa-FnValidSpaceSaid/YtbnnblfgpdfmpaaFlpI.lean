/- DropIssue and FlipIssue of the program. -/
import Derived.Test.YtbnnblfgpdfmpaaFlp
import Derived.Test.YtbnnblfgpdfmpaaSpc
import Derived.Deep.RegionHeld3
namespace Go.Proofs.Ytbnnblfgpdfmpaa
open Go.RowKit Go.Joins

theorem givesX_no {n : Int} {zs : List Int} {o : Bool} {w W : World} (h0 : n = 0) (h1 : zs = []) (h2 : o = false) (hb : Below w.heap.size w W) : GivesX n zs o w (.returned (.tuple #[.agg #[.int .i64 0, .slice none 0 0], .bool false])) W := by
  subst h0 h1 h2
  exact ⟨_, rfl, World.ownsRow_nil _ _ _ _, hb⟩
theorem implVSf_was (n : Int) (a : Option Addr) (cap : Nat) (zs : List Int) (r : Bool) (w : World) (hi : Ints w a zs) (hn : zs.length ≤ 1048576) (h : vsB n zs = r) :
    Calls Try.prog 26 #[.agg #[.int .i64 n, .slice a zs.length cap]] w fun e w' => e = .returned (.bool r) ∧ Below w.heap.size w w' := by
  subst h
  exact implValidSpace_any n a cap zs w hi hn
set_option maxRecDepth 100000 in
theorem hasIssue_was (n j : Int) (a : Option Addr) (cap : Nat) (zs : List Int) (r : Bool) (w : World) (hi : Ints w a zs) (hn : zs.length ≤ 1048576) (h : hiB n zs j = r) :
    Calls Try.prog 42 #[.agg #[.int .i64 n, .slice a zs.length cap], .int .i64 j] w fun e w' => e = .returned (.bool r) ∧ Below w.heap.size w w' := by
  have S0 := SV.new w n a zs cap none [] 26 hi (Ints.nil _ _)
  obtain ⟨⟨_, c0, c1⟩, _⟩ := S0.pair
  clear hi
  by_cases hs : vsB n zs = false
  · have hr : r = false := by rw [← h]; unfold hiB; rw [hs]; rfl
    subst hr
    have HV := hide hs
    clear hs h
    go_enter Try.func42, Try.ntmps42
    go_wp2_with fail
    refine (implVSf_was _ _ _ _ false _ S0.2.1 hn HV.out).mono ?_
    rintro e w1 ⟨rfl, hb⟩
    go_wp2
    go_ret
    exact ⟨rfl, (S0.below hb).2.2.2⟩
  · have hs : vsB n zs = true := by simpa using hs
    have HV := hide hs
    by_cases hj0 : 0 ≤ j
    · by_cases hjn : j < n
      · have hr : r = true := by rw [← h]; unfold hiB; rw [hs, decide_eq_true hj0, decide_eq_true hjn]; rfl
        subst hr
        clear hs h
        go_enter Try.func42, Try.ntmps42
        go_wp2_with fail
        refine (implVSf_was _ _ _ _ true _ S0.2.1 hn HV.out).mono ?_
        rintro e w1 ⟨rfl, hb⟩
        have S1 := S0.below hb
        clear c0 c1 S0 hb
        obtain ⟨⟨_, c0, c1⟩, _⟩ := S1.pair
        go_wp2
        go_ret
        exact ⟨rfl, S1.2.2.2⟩
      · have hr : r = false := by rw [← h]; unfold hiB; rw [decide_eq_false hjn, Bool.and_false, Bool.and_false]
        subst hr
        clear hs h
        go_enter Try.func42, Try.ntmps42
        go_wp2_with fail
        refine (implVSf_was _ _ _ _ true _ S0.2.1 hn HV.out).mono ?_
        rintro e w1 ⟨rfl, hb⟩
        have S1 := S0.below hb
        clear c0 c1 S0 hb
        obtain ⟨⟨_, c0, c1⟩, _⟩ := S1.pair
        go_wp2
        go_ret
        exact ⟨ret_bool (decide_eq_false (by omega)), S1.2.2.2⟩
    · have hr : r = false := by rw [← h]; unfold hiB; rw [decide_eq_false hj0, Bool.false_and, Bool.and_false]
      subst hr
      clear hs h
      go_enter Try.func42, Try.ntmps42
      go_wp2_with fail
      refine (implVSf_was _ _ _ _ true _ S0.2.1 hn HV.out).mono ?_
      rintro e w1 ⟨rfl, hb⟩
      have S1 := S0.below hb
      clear c0 c1 S0 hb
      obtain ⟨⟨_, c0, c1⟩, _⟩ := S1.pair
      go_wp2
      go_ret
      exact ⟨rfl, S1.2.2.2⟩
theorem dropClosure_any (x : Int) (j g : Nat) (w : World) (hj : j < 4) (hx : 0 ≤ x ∧ x ≤ 15) (hc : w.cell? ⟨g, 0, none⟩ = some (.int .i64 (((2 ^ j : Nat) : Int) - 1))) :
    Calls Try.prog 48 #[.int .i64 x, .pointer (some ⟨g, 0, none⟩)] w fun e w' => e = .returned (.int .i64 (dropI j x)) ∧ Below w.heap.size w w' := by
  obtain ⟨y, rfl⟩ := Int.eq_ofNat_of_zero_le hx.1
  have HD : Hid (bits .or .i64 (bits .and .i64 (y : Int) (((2 ^ j : Nat) : Int) - 1)) (bits .andNot .i64 ((y : Int) / 2) (((2 ^ j : Nat) : Int) - 1)) = dropI j (y : Int)) := by
    unfold Hid dropI
    rw [Int.toNat_natCast]
    exact drop_bits ⟨j, hj⟩ ⟨y, by omega⟩
  have hy : y < 16 := by omega
  obtain ⟨pt, hpt⟩ : ∃ pt : Int, pt = ((2 ^ j : Nat) : Int) - 1 := ⟨_, rfl⟩
  rw [← hpt] at hc HD
  clear hpt hx
  go_enter Try.func48, Try.ntmps48
  go_wp2
  go_ret
  exact ⟨ret_int HD.out, Below.refl _ _⟩
set_option maxHeartbeats 4000000 in
set_option maxRecDepth 100000 in
theorem implDropIssue_any (n j : Int) (a : Option Addr) (cap : Nat) (zs : List Int) (w : World) (hi : Ints w a zs) (hn : zs.length ≤ 1048576) :
    Calls Try.prog 19 #[.agg #[.int .i64 n, .slice a zs.length cap], .int .i64 j] w (GivesX (dpN n zs j) (dpL n zs j) (dpB n zs j) w) := by
  have S0 := (SV.new w n a zs cap none [] 26 hi (Ints.nil _ _)).below (bel1 _ (.cells #[.int .i64 0, .slice none 0 0] 26))
  have hres := heap_alloc_new (w.alloc (.cells #[.int .i64 n, .slice a zs.length cap] 26)) (.cells #[.int .i64 0, .slice none 0 0] 26)
  simp only [World.size_alloc] at hres
  have HRES := hide hres
  have HS0 := hide S0
  obtain ⟨⟨_, c0, c1⟩, _⟩ := S0.pair
  clear hi hres S0
  have ENDNO : Hid (∀ W : World, Below w.heap.size w W → dpB n zs j = false → ∀ x y : Value, GivesX (dpN n zs j) (dpL n zs j) (dpB n zs j) w (.returned (.tuple #[.agg #[.int .i64 0, .slice none 0 0], .bool false])) ((W.setCell ⟨w.heap.size + 1, 0, none⟩ x).setCell ⟨w.heap.size + 1, 1, none⟩ y)) := fun W hB hno x y =>
    givesX_no (by unfold dpN; rw [if_neg (by rw [hno]; decide)]) (by unfold dpL; rw [if_neg (by rw [hno]; decide)]) hno ((hB.setCell (p := ⟨w.heap.size + 1, 0, none⟩) (by show w.heap.size ≤ w.heap.size + 1; omega) _).setCell (p := ⟨w.heap.size + 1, 1, none⟩) (by show w.heap.size ≤ w.heap.size + 1; omega) _)
  by_cases hh : hiB n zs j = false
  · have HNO := hide (show dpB n zs j = false by unfold dpB; rw [hh]; rfl)
    have HH := hide hh
    clear hh
    go_enter Try.func19, Try.ntmps19
    go_wp2_with fail
    refine (hasIssue_was _ _ _ _ _ false _ HS0.out.2.1 hn HH.out).mono ?_
    rintro e w1 ⟨rfl, hb⟩
    have hr1 := (hb.block _ (lt_of_block HRES.out)).trans HRES.out
    have f0 := unfrozen_of_block hr1 0
    have f1 := unfrozen_of_block hr1 1
    have r0 := cell_of_block hr1 0
    have r1 := cell_of_block hr1 1
    have HR1 := hide hr1
    have HB := hide (HS0.out.below hb).2.2.2
    clear hr1 hb HS0 HRES c0 c1
    go_wp2
    refine bodyPost_ret (ret_cross rfl _ _ _ _ _ rfl (block_setCell (i := 1) (block_setCell (i := 0) HR1.out _) _)) rfl ?_
    exact ENDNO.out _ HB.out HNO.out _ _
  · have hh : hiB n zs j = true := by simpa using hh
    have HH := hide hh
    obtain ⟨hvs, hj0, hjn⟩ := hiB_iff.1 hh
    have hV := valid_of hvs
    have hn4 := hV.1
    by_cases h2 : n < 2
    · have HNO := hide (show dpB n zs j = false by unfold dpB; rw [decide_eq_false (by omega), Bool.and_false])
      clear hh hvs hV
      go_enter Try.func19, Try.ntmps19
      go_wp2_with fail
      refine (hasIssue_was _ _ _ _ _ true _ HS0.out.2.1 hn HH.out).mono ?_
      rintro e w1 ⟨rfl, hb⟩
      have hr1 := (hb.block _ (lt_of_block HRES.out)).trans HRES.out
      have f0 := unfrozen_of_block hr1 0
      have f1 := unfrozen_of_block hr1 1
      have r0 := cell_of_block hr1 0
      have r1 := cell_of_block hr1 1
      have HR1 := hide hr1
      have S1 := HS0.out.below hb
      have HB := hide S1.2.2.2
      clear hr1 hb HS0 HRES c0 c1
      obtain ⟨⟨_, c0, c1⟩, _⟩ := S1.pair
      go_wp2
      refine bodyPost_ret (ret_cross rfl _ _ _ _ _ rfl (block_setCell (i := 1) (block_setCell (i := 0) HR1.out _) _)) rfl ?_
      exact ENDNO.out _ HB.out HNO.out _ _
    · obtain ⟨jN, rfl⟩ : ∃ jN : Nat, j = (jN : Int) := ⟨j.toNat, by omega⟩
      have hj4 : jN < 4 := by omega
      have hdp : dpB n zs (jN : Int) = true := by unfold dpB; rw [hh, decide_eq_true (by omega)]; rfl
      have HN := hide (show dpN n zs (jN : Int) = n - 1 by unfold dpN; rw [if_pos hdp])
      have HL := hide (show dpL n zs (jN : Int) = unq (zs.map (dropI jN)) by unfold dpL; rw [if_pos hdp, Int.toNat_natCast])
      have HBB := hide hdp
      have HZ := hide (fun z (hz : z ∈ zs) => valid_range hV z hz)
      have hz0 := hV.2.1
      have p8 : 2 ^ jN ≤ 2 ^ 3 := Nat.pow_le_pow_right (by omega) (by omega)
      have p1 := Nat.two_pow_pos jN
      have hsh : wrap64 ((2 : Int) ^ jN) = ((2 ^ jN : Nat) : Int) := by
        have e : ((2 : Int) ^ jN) = ((2 ^ jN : Nat) : Int) := by simp
        rw [e, IntWalk.wrap64_in _ (by omega)]
      obtain ⟨pt, hpt⟩ : ∃ pt, 2 ^ jN = pt := ⟨_, rfl⟩
      rw [hpt] at p8 p1 hsh
      have HPT := hide hpt
      clear hh hvs hV hdp hpt
      go_enter Try.func19, Try.ntmps19
      go_wp2_with fail
      refine (hasIssue_was _ _ _ _ _ true _ HS0.out.2.1 hn HH.out).mono ?_
      rintro e w1 ⟨rfl, hb⟩
      have HR1 := hide ((hb.block _ (lt_of_block HRES.out)).trans HRES.out)
      have S1 := hide (HS0.out.below hb)
      clear hb HS0 HRES c0 c1
      obtain ⟨⟨_, c0, c1⟩, _⟩ := S1.out.pair
      have S2 := hide (S1.out.below (bel1 w1 (.cells #[.int .i64 ((pt : Int) - 1)] 3)))
      have hcl : ∀ w', Below (w1.alloc (.cells #[.int .i64 ((pt : Int) - 1)] 3)).heap.size (w1.alloc (.cells #[.int .i64 ((pt : Int) - 1)] 3)) w' → w'.cell? ⟨w1.heap.size, 0, none⟩ = some (.int .i64 (((2 ^ jN : Nat) : Int) - 1)) := fun w' h => by
        rw [HPT.out]
        exact (h.cell (p := ⟨w1.heap.size, 0, none⟩) (by simp)).trans (by simp [go_sem])
      have HCL := hide hcl
      have HR2 := hide (((bel1 w1 (.cells #[.int .i64 ((pt : Int) - 1)] 3)).block _ (lt_of_block HR1.out)).trans HR1.out)
      obtain ⟨⟨_, e0, e1⟩, _⟩ := S2.out.pair
      clear hcl
      go_wp2_with fail
      refine (spaceOfD_any (dropI jN) _ _ _ w1.heap.size _ _ S2.out.2.1 hn hz0 (fun x w' hx hb' => dropClosure_any x jN _ w' hj4 (HZ.out x hx) (HCL.out w' hb'))).mono ?_
      rintro e w3 ⟨v3, rfl, o3, b3⟩
      have hr3 := (b3.block _ (lt_of_block HR2.out)).trans HR2.out
      have f0 := unfrozen_of_block hr3 0
      have f1 := unfrozen_of_block hr3 1
      have r0 := cell_of_block hr3 0
      have r1 := cell_of_block hr3 1
      have HR3 := hide hr3
      have HB3 := hide (bnext S2.out.2.2.2 b3)
      have HO3 := hide o3
      have hlt1 : w.heap.size + 1 < w1.heap.size := lt_of_block HR1.out
      obtain ⟨av, cv, rfl, _, _⟩ := o3.form
      clear hr3 b3 o3 c0 c1 e0 e1
      go_wp2
      refine bodyPost_ret (ret_cross rfl _ _ _ _ _ rfl (block_setCell (i := 1) (block_setCell (i := 0) HR3.out _) _)) rfl ?_
      rw [HN.out, HL.out, HBB.out]
      exact ⟨_, rfl, ((HO3.out.setBelow (p := ⟨w.heap.size + 1, 0, none⟩) (by simp; omega) _).setBelow (p := ⟨w.heap.size + 1, 1, none⟩) (by simp; omega) _).le (by simp; omega), (HB3.out.setCell (p := ⟨w.heap.size + 1, 0, none⟩) (by show w.heap.size ≤ w.heap.size + 1; omega) _).setCell (p := ⟨w.heap.size + 1, 1, none⟩) (by show w.heap.size ≤ w.heap.size + 1; omega) _⟩
theorem flipClosure_any (x : Int) (j g : Nat) (w : World) (hj : j < 4) (hx : 0 ≤ x ∧ x ≤ 15) (hc : w.cell? ⟨g, 0, none⟩ = some (.int .i64 (j : Int))) :
    Calls Try.prog 44 #[.int .i64 x, .pointer (some ⟨g, 0, none⟩)] w fun e w' => e = .returned (.int .i64 (flipI j x)) ∧ Below w.heap.size w w' := by
  obtain ⟨y, rfl⟩ := Int.eq_ofNat_of_zero_le hx.1
  have p8 : 2 ^ j ≤ 2 ^ 3 := Nat.pow_le_pow_right (by omega) (by omega)
  have p1 := Nat.two_pow_pos j
  have hsh : wrap64 ((2 : Int) ^ j) = ((2 ^ j : Nat) : Int) := by
    have e : ((2 : Int) ^ j) = ((2 ^ j : Nat) : Int) := by simp
    rw [e, IntWalk.wrap64_in _ (by omega)]
  have HD : Hid (bits .xor .i64 (y : Int) (wrap64 ((2 : Int) ^ j)) = flipI j (y : Int)) := by
    unfold Hid flipI
    rw [hsh, Int.toNat_natCast]
    exact flip_bits ⟨j, hj⟩ ⟨y, by omega⟩
  have hy : y < 16 := by omega
  clear hsh hx p8 p1
  go_enter Try.func44, Try.ntmps44
  go_wp2
  go_ret
  exact ⟨ret_int HD.out, Below.refl _ _⟩
set_option maxHeartbeats 4000000 in
set_option maxRecDepth 100000 in
theorem implFlipIssue_any (n j : Int) (a : Option Addr) (cap : Nat) (zs : List Int) (w : World) (hi : Ints w a zs) (hn : zs.length ≤ 1048576) :
    Calls Try.prog 14 #[.agg #[.int .i64 n, .slice a zs.length cap], .int .i64 j] w (GivesX (fpN n zs j) (fpL n zs j) (hiB n zs j) w) := by
  have S0 := ((SV.new w n a zs cap none [] 26 hi (Ints.nil _ _)).below (bel1 _ (.cells #[.int .i64 j] 3))).below (bel1 _ (.cells #[.int .i64 0, .slice none 0 0] 26))
  have hres := heap_alloc_new ((w.alloc (.cells #[.int .i64 n, .slice a zs.length cap] 26)).alloc (.cells #[.int .i64 j] 3)) (.cells #[.int .i64 0, .slice none 0 0] 26)
  have hjb := ((bel1 ((w.alloc (.cells #[.int .i64 n, .slice a zs.length cap] 26)).alloc (.cells #[.int .i64 j] 3)) (.cells #[.int .i64 0, .slice none 0 0] 26)).block (w.heap.size + 1) (by simp)).trans (by have h := heap_alloc_new (w.alloc (.cells #[.int .i64 n, .slice a zs.length cap] 26)) (.cells #[.int .i64 j] 3); simp only [World.size_alloc] at h; exact h)
  simp only [World.size_alloc] at hres
  have HRES := hide hres
  have HJB := hide hjb
  have HS0 := hide S0
  obtain ⟨⟨_, c0, c1⟩, _⟩ := S0.pair
  have d0 := cell_of_block hjb 0
  clear hi hres S0 hjb
  by_cases hh : hiB n zs j = false
  · have HH := hide hh
    clear hh
    go_enter Try.func14, Try.ntmps14
    go_wp2_with fail
    refine (hasIssue_was _ _ _ _ _ false _ HS0.out.2.1 hn HH.out).mono ?_
    rintro e w1 ⟨rfl, hb⟩
    have hr1 := (hb.block _ (lt_of_block HRES.out)).trans HRES.out
    have f0 := unfrozen_of_block hr1 0
    have f1 := unfrozen_of_block hr1 1
    have r0 := cell_of_block hr1 0
    have r1 := cell_of_block hr1 1
    have HR1 := hide hr1
    have HB := hide (HS0.out.below hb).2.2.2
    clear hr1 hb HS0 HRES c0 c1 d0
    go_wp2
    refine bodyPost_ret (ret_cross rfl _ _ _ _ _ rfl (block_setCell (i := 1) (block_setCell (i := 0) HR1.out _) _)) rfl ?_
    exact givesX_no (by unfold fpN; rw [if_neg (by rw [HH.out]; decide)]) (by unfold fpL; rw [if_neg (by rw [HH.out]; decide)]) HH.out ((HB.out.setCell (p := ⟨w.heap.size + 1 + 1, 0, none⟩) (by show w.heap.size ≤ w.heap.size + 1 + 1; omega) _).setCell (p := ⟨w.heap.size + 1 + 1, 1, none⟩) (by show w.heap.size ≤ w.heap.size + 1 + 1; omega) _)
  · have hh : hiB n zs j = true := by simpa using hh
    have HH := hide hh
    obtain ⟨hvs, hj0, hjn⟩ := hiB_iff.1 hh
    have hV := valid_of hvs
    have hn4 := hV.1
    obtain ⟨jN, rfl⟩ : ∃ jN : Nat, j = (jN : Int) := ⟨j.toNat, by omega⟩
    have hj4 : jN < 4 := by omega
    have HN := hide (show fpN n zs (jN : Int) = n by unfold fpN; rw [if_pos hh])
    have HL := hide (show fpL n zs (jN : Int) = unq (zs.map (flipI jN)) by unfold fpL; rw [if_pos hh, Int.toNat_natCast])
    have HZ := hide (fun z (hz : z ∈ zs) => valid_range hV z hz)
    have hz0 := hV.2.1
    clear hh hvs hV
    go_enter Try.func14, Try.ntmps14
    go_wp2_with fail
    refine (hasIssue_was _ _ _ _ _ true _ HS0.out.2.1 hn HH.out).mono ?_
    rintro e w1 ⟨rfl, hb⟩
    have HR1 := hide ((hb.block _ (lt_of_block HRES.out)).trans HRES.out)
    have HJ1 := hide ((hb.block _ (lt_of_block HJB.out)).trans HJB.out)
    have S1 := hide (HS0.out.below hb)
    clear hb HS0 HRES c0 c1 d0 HJB
    obtain ⟨⟨_, c0, c1⟩, _⟩ := S1.out.pair
    have hcl : ∀ w', Below w1.heap.size w1 w' → w'.cell? ⟨w.heap.size + 1, 0, none⟩ = some (.int .i64 (jN : Int)) := fun w' h => cell_of_block ((h.block _ (lt_of_block HJ1.out)).trans HJ1.out) 0
    have HCL := hide hcl
    clear hcl
    go_wp2_with fail
    refine (spaceOfF_any (flipI jN) _ _ _ (w.heap.size + 1) _ _ S1.out.2.1 hn hz0 (fun x w' hx hb' => flipClosure_any x jN _ w' hj4 (HZ.out x hx) (HCL.out w' hb'))).mono ?_
    rintro e w3 ⟨v3, rfl, o3, b3⟩
    have hr3 := (b3.block _ (lt_of_block HR1.out)).trans HR1.out
    have f0 := unfrozen_of_block hr3 0
    have f1 := unfrozen_of_block hr3 1
    have r0 := cell_of_block hr3 0
    have r1 := cell_of_block hr3 1
    have HR3 := hide hr3
    have HB3 := hide (bnext S1.out.2.2.2 b3)
    have HO3 := hide o3
    have hlt1 : w.heap.size + 1 + 1 < w1.heap.size := lt_of_block HR1.out
    obtain ⟨av, cv, rfl, _, _⟩ := o3.form
    clear hr3 b3 o3 c0 c1
    go_wp2
    refine bodyPost_ret (ret_cross rfl _ _ _ _ _ rfl (block_setCell (i := 1) (block_setCell (i := 0) HR3.out _) _)) rfl ?_
    rw [HN.out, HL.out, HH.out]
    exact ⟨_, rfl, ((HO3.out.setBelow (p := ⟨w.heap.size + 1 + 1, 0, none⟩) (by simp; omega) _).setBelow (p := ⟨w.heap.size + 1 + 1, 1, none⟩) (by simp; omega) _).le (by omega), (HB3.out.setCell (p := ⟨w.heap.size + 1 + 1, 0, none⟩) (by show w.heap.size ≤ w.heap.size + 1 + 1; omega) _).setCell (p := ⟨w.heap.size + 1 + 1, 1, none⟩) (by show w.heap.size ≤ w.heap.size + 1 + 1; omega) _⟩
end Go.Proofs.Ytbnnblfgpdfmpaa
