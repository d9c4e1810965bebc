/- Texts of this seat one behind the other: Par, ParI, PFlip. Conditions: none. -/
import Derived.Test.YtbnnblfgpdfmpaaMgA
import Derived.Test.YtbnnblfgpdfmpaaMgB
import Derived.Test.YtbnnblfgpdfmpaaDrawDI
import Derived.Deep.RegionHeld3
import Derived.Deep.RegionWith

/- Par: IsEven: the model's loops. -/
namespace Go.Proofs.Ytbnnblfgpdfmpaa
open Go.RowKit Go.Joins

end Go.Proofs.Ytbnnblfgpdfmpaa

/- ParI: impl.IsEven. -/
namespace Go.Proofs.Ytbnnblfgpdfmpaa
open Go.RowKit Go.Joins

theorem implValidSpace_isIsEven (n : Int) (a : Option Addr) (cap : Nat) (zs : List Int) (w : World) (r : Bool) (hi : Ints w a zs) (hn : zs.length ≤ 1048576) (hr : vsB n zs = r) :
    Calls Try.prog 26 #[.agg #[.int .i64 n, .slice a zs.length cap]] w fun e w' => e = .returned (.bool r) ∧ Below w.heap.size w w' :=
  (implValidSpace_any n a cap zs w hi hn).mono fun _ _ ⟨he, hb⟩ => ⟨he.trans (ret_bool hr), hb⟩

set_option maxHeartbeats 2000000 in
theorem implIsEven_any (n : Int) (a : Option Addr) (cap : Nat) (zs : List Int) (w : World) (hi : Ints w a zs) (hn : zs.length ≤ 1048576) (hcap : zs.length ≤ cap) :
    Calls Try.prog 23 #[.agg #[.int .i64 n, .slice a zs.length cap]] w fun e w' => e = .returned (.bool (closedB par n zs)) ∧ Below w.heap.size w w' := by
  have S0 := SV.new w n a zs cap none [] 26 hi (Ints.nil _ _)
  clear hi
  by_cases hv : vsB n zs = false
  · have HN := hide (closedB_no (f := par) hv)
    have HV := hide hv
    clear hv
    obtain ⟨⟨_, c0, c1⟩, _⟩ := S0.pair
    go_enter Try.func23, Try.ntmps23
    go_wp2_with fail
    first
      | go_region_with ((go_at_call 26; refine (implValidSpace_isIsEven _ _ _ _ _ false S0.drew.2.1 hn HV.out).mono ?_; rintro e w1 ⟨rfl, hb⟩; have S1 := S0.drew.below hb))
      | fail
    all_goals
      go_wp2
      go_ret
      exact ⟨ret_bool HN.out.symm, S1.2.2.2⟩
  · have hv : vsB n zs = true := by simpa using hv
    have HV := hide hv
    have hV := hide (valid_of hv)
    have HR := hide (valid_range hV.out)
    have hjl : (joinL par zs).length = (joined par (zs.map Int.toNat)).length := by unfold joinL; rw [List.length_map]
    have hE : (((joinL par zs).length : Int) == (zs.length : Int)) = closedB par n zs := by
      unfold closedB
      rw [hv, Bool.true_and, hjl, Bool.eq_iff_iff, beq_iff_eq, beq_iff_eq]
      omega
    clear hv hjl
    obtain ⟨⟨_, c0, c1⟩, _⟩ := S0.pair
    go_enter Try.func23, Try.ntmps23
    go_wp2_with fail
    go_region_held3 (fun w' => w'.cell? ⟨w.heap.size, 0, none⟩ = some (.int .i64 n) ∧ w'.cell? ⟨w.heap.size, 1, none⟩ = some (.slice a zs.length cap))
      (first
        | exact ⟨c0, c1⟩
        | exact ⟨S2.1.2.1, S2.1.2.2⟩
        | exact ⟨S1.1.2.1, S1.1.2.2⟩
        | go_keep)
      (first
        | (go_at_call 26; refine (implValidSpace_isIsEven _ _ _ _ _ true S0.drew.2.1 hn HV.out).mono ?_; rintro e w1 ⟨rfl, hb⟩; have S1 := S0.drew.below hb)
        | (go_at_call 50; refine (joinedPar_any _ _ _ _ S1.2.1 hn hcap HR.out).mono ?_; rintro e w2 ⟨v, rfl, ov, hb2⟩; obtain ⟨av, cv, rfl, iv, _⟩ := ov.form; have S2 := S1.below hb2))
    all_goals
      go_wp2
      go_ret
      exact ⟨rfl, S2.2.2.2⟩
end Go.Proofs.Ytbnnblfgpdfmpaa

/- PFlip: The law of FlipIssue answers true at every code: its walk. -/
namespace Go.Proofs.Ytbnnblfgpdfmpaa
open Go.RowKit Go.Joins

/-- three spaces in variables -/
def FC (w1 : World) (m : Int) (av : Option Addr) (ss : List Int) (cv g2 : Nat) (nn : Int) (oa : Option Addr) (C : List Int) (oc g8 : Nat) (xn : Int) (xa : Option Addr) (xl : List Int) (xc : Nat) (w' : World) : Prop :=
  Box w' w1.heap.size m av ss.length cv ∧ Ints w' av ss ∧ Box w' g2 nn oa C.length oc ∧ Ints w' oa C ∧ Box w' g8 xn xa xl.length xc ∧ Ints w' xa xl ∧ Below w1.heap.size w1 w'
theorem FC.below {w1 wx wy : World} {m : Int} {av : Option Addr} {ss : List Int} {cv g2 : Nat} {nn : Int} {oa : Option Addr} {C : List Int} {oc g8 : Nat} {xn : Int} {xa : Option Addr} {xl : List Int} {xc : Nat} (h : FC w1 m av ss cv g2 nn oa C oc g8 xn xa xl xc wx) (hb : Below wx.heap.size wx wy) : FC w1 m av ss cv g2 nn oa C oc g8 xn xa xl xc wy :=
  ⟨h.1.below hb, h.2.1.below hb, h.2.2.1.below hb, h.2.2.2.1.below hb, h.2.2.2.2.1.below hb, h.2.2.2.2.2.1.below hb, bnext h.2.2.2.2.2.2 hb⟩
theorem FC.drew {w1 wx : World} {m : Int} {av : Option Addr} {ss : List Int} {cv g2 : Nat} {nn : Int} {oa : Option Addr} {C : List Int} {oc g8 : Nat} {xn : Int} {xa : Option Addr} {xl : List Int} {xc : Nat} (h : FC w1 m av ss cv g2 nn oa C oc g8 xn xa xl xc wx) : FC w1 m av ss cv g2 nn oa C oc g8 xn xa xl xc wx.drew := h.below (bdrew' (Below.refl _ _))
theorem FC.third {w1 wx : World} {m : Int} {av : Option Addr} {ss : List Int} {cv g2 : Nat} {nn : Int} {oa : Option Addr} {C : List Int} {oc g8 g9 : Nat} {xn yn : Int} {xa ya : Option Addr} {xl yl : List Int} {xc yc : Nat} (h : FC w1 m av ss cv g2 nn oa C oc g8 xn xa xl xc wx) (hb : Box wx g9 yn ya yl.length yc) (hi : Ints wx ya yl) : FC w1 m av ss cv g2 nn oa C oc g9 yn ya yl yc wx :=
  ⟨h.1, h.2.1, h.2.2.1, h.2.2.2.1, hb, hi, h.2.2.2.2.2.2⟩
theorem flipP_was (n j : Int) (a : Option Addr) (cap : Nat) (zs : List Int) (N : Int) (L : List Int) (B : Bool) (w : World) (hi : Ints w a zs) (hn : zs.length ≤ 1048576) (h1 : fpN n zs j = N) (h2 : fpL n zs j = L) (h3 : hiB n zs j = B) :
    Calls Try.prog 14 #[.agg #[.int .i64 n, .slice a zs.length cap], .int .i64 j] w (GivesX N L B w) := by
  subst h1 h2 h3
  exact implFlipIssue_any n j a cap zs w hi hn
theorem flipS_was (n j : Int) (a : Option Addr) (cap : Nat) (zs : List Int) (N : Int) (L : List Int) (B : Bool) (w : World) (hi : Ints w a zs) (hn : zs.length ≤ 1048576) (h1 : fpN n zs j = N) (h2 : fpL n zs j = L) (h3 : hiB n zs j = B) :
    Calls Try.prog 12 #[.agg #[.int .i64 n, .slice a zs.length cap], .int .i64 j] w (GivesX N L B w) := by
  subst h1 h2 h3
  exact specFlipIssue_any n j a cap zs w hi hn
theorem implEvn_was (n : Int) (a : Option Addr) (cap : Nat) (zs : List Int) (w : World) (r : Bool) (hi : Ints w a zs) (hn : zs.length ≤ 1048576) (hcap : zs.length ≤ cap) (hr : closedB par n zs = r) :
    Calls Try.prog 23 #[.agg #[.int .i64 n, .slice a zs.length cap]] w fun e w' => e = .returned (.bool r) ∧ Below w.heap.size w w' := by
  subst hr
  exact implIsEven_any n a cap zs w hi hn hcap
theorem critN_was (n : Int) (a : Option Addr) (cap : Nat) (zs : List Int) (K : Nat) (w : World) (hi : Ints w a zs) (hn : zs.length ≤ 1048576) (h : (crR n zs).length = K) :
    Calls Try.prog 24 #[.agg #[.int .i64 n, .slice a zs.length cap]] w fun e w' => ∃ va vc, e = .returned (.slice va K vc) ∧ Below w.heap.size w w' := by
  refine (implCrit_was n a cap zs _ w hi hn rfl).mono ?_
  rintro e w' ⟨v, rfl, ov, hb⟩
  obtain ⟨va, vc, rfl, _⟩ := ov.form
  exact ⟨va, vc, by rw [h], hb⟩
theorem fpN_yes {n j : Int} {zs : List Int} (h : hiB n zs j = true) : fpN n zs j = n := if_pos h
theorem fpL_yes {n j : Int} {zs : List Int} (h : hiB n zs j = true) : fpL n zs j = unq (zs.map (flipI j.toNat)) := if_pos h
/-- what the law says of a flipped space -/
theorem flip_law {n j : Int} {zs : List Int} (h : hiB n zs j = true) : hiB n (fpL n zs j) j = true ∧ fpL n (fpL n zs j) j = zs ∧ closedB med n (fpL n zs j) = closedB med n zs ∧ closedB par n (fpL n zs j) = closedB par n zs ∧ (crR n (fpL n zs j)).length = (crR n zs).length ∧ (fpL n zs j).length = zs.length := by
  obtain ⟨hv, h0, h1⟩ := hiB_iff.1 h
  have hV := valid_of hv
  obtain ⟨N, rfl⟩ : ∃ N : Nat, n = (N : Int) := ⟨n.toNat, by have := hV.1; omega⟩
  obtain ⟨J, rfl⟩ : ∃ J : Nat, j = (J : Int) := ⟨j.toNat, by omega⟩
  have hJ : J < N := by omega
  have e := fpL_yes h
  rw [Int.toNat_natCast] at e
  have hB : hiB (N : Int) (fpL (N : Int) zs (J : Int)) (J : Int) = true := by
    rw [e]
    exact hiB_iff.2 ⟨vsB_true (fl_valid hV hJ), h0, h1⟩
  have e2 := fpL_yes hB
  rw [Int.toNat_natCast] at e2
  refine ⟨hB, ?_, ?_, ?_, ?_, ?_⟩
  · rw [e2, e, fl_back hV hJ]
  · rw [e, fl_closed join_med turns_med hV hJ]
  · rw [e, fl_closed join_par turns_par hV hJ]
  · rw [e, fl_crR hV hJ]
  · rw [e, fl_len hV hJ]

set_option maxHeartbeats 8000000 in
set_option maxRecDepth 100000 in
theorem walk_FnFlipIssue (a : Option Addr) (zs : List Nat) (cap : Nat) (w : World) (hi : Byts w a zs) (hl : zs.length ≤ maxLen) (hc : zs.length ≤ cap) :
    Calls Try.prog 5 #[.slice a zs.length cap] w fun e w' => e = .returned (.bool true) ∧ Below w.heap.size w w' := by
  by_cases h : 1048576 < zs.length
  · unfold maxLen at hl
    go_enter Try.func5, Try.ntmps5
    go_wp2
    go_ret
    exact ⟨rfl, Below.refl _ _⟩
  · have hl' : zs.length ≤ 1048576 := by omega
    clear h hl
    go_enter Try.func5, Try.ntmps5
    go_wp2_with fail
    refine (drawFlipIssue_any _ _ _ _ hi hl' hc).mono ?_
    rintro e w1 ⟨m, av, ss, cv, j, rfl, iv, hsl, hcv, _, hb⟩
    have S0 := SV.new w1 m av ss cv none [] 26 iv (Ints.nil _ _)
    have HB := hide hb
    have hn : ss.length ≤ 1048576 := by omega
    have HCV := hide hcv
    clear hb hi iv hl' hsl hcv
    obtain ⟨⟨_, c0, c1⟩, _⟩ := S0.pair
    by_cases hB : hiB m ss j = false
    · have HBB := hide hB
      obtain ⟨N0, hN⟩ : ∃ N0, fpN m ss j = N0 := ⟨_, rfl⟩
      obtain ⟨L, hL⟩ : ∃ L, fpL m ss j = L := ⟨_, rfl⟩
      have hLl : L.length ≤ 1048576 := by
        have e : fpL m ss j = [] := if_neg (by rw [hB]; decide)
        rw [← hL, e]
        exact Nat.zero_le _
      have HN := hide hN
      have HL := hide hL
      clear hB hN hL
      go_wp2_with fail
      refine (flipP_was _ _ _ _ _ N0 L false _ S0.2.1 hn HN.out HL.out HBB.out).mono ?_
      rintro e w2 ⟨vo, rfl, oo, b2⟩
      obtain ⟨oa, oc, rfl, io, _⟩ := oo.form
      have bo := bel1 w2 (.cells #[.int .i64 N0, .slice oa L.length oc] 26)
      have S2 := (S0.below b2).below bo
      have bx := Box.new w2 N0 oa L.length oc 26
      obtain ⟨g2, hg2⟩ : ∃ g2, g2 = w2.heap.size := ⟨_, rfl⟩
      rw [← hg2] at bx
      have M2 : Hid (FC w1 m av ss cv g2 N0 oa L oc g2 N0 oa L oc (w2.alloc (.cells #[.int .i64 N0, .slice oa L.length oc] 26))) := ⟨S2.1, S2.2.1, bx, io.below bo, bx, io.below bo, S2.2.2.2⟩
      clear c0 c1 S0 b2 oo io bo S2 bx
      go_upto_region 5 with fail
      rw [← hg2]
      obtain ⟨W, hW⟩ : ∃ W : World, W = w2.alloc (.cells #[.int .i64 N0, .slice oa L.length oc] 26) := ⟨_, rfl⟩
      rw [← hW] at M2 ⊢
      clear hW hg2
      obtain ⟨⟨_, c0, c1⟩, is2, ⟨_, d0, d1⟩, _⟩ := M2.out
      go_wp2_with fail
      refine (flipS_was _ _ _ _ _ N0 L false _ is2 hn HN.out HL.out HBB.out).mono ?_
      rintro e w3 ⟨vo, rfl, oo, b3⟩
      obtain ⟨xa, xc, rfl, io, _⟩ := oo.form
      have bo := bel1 w3 (.cells #[.int .i64 N0, .slice xa L.length xc] 26)
      have bx := Box.new w3 N0 xa L.length xc 26
      obtain ⟨g3, hg3⟩ : ∃ g3, g3 = w3.heap.size := ⟨_, rfl⟩
      rw [← hg3] at bx
      have M3 := hide (((M2.out.below b3).below bo).third bx (io.below bo))
      clear c0 c1 d0 d1 b3 oo io bo bx is2 M2
      go_upto_region 6 with fail
      rw [← hg3]
      obtain ⟨W3, hW⟩ : ∃ W : World, W = w3.alloc (.cells #[.int .i64 N0, .slice xa L.length xc] 26) := ⟨_, rfl⟩
      rw [← hW] at M3 ⊢
      clear hW hg3
      obtain ⟨_, _, ⟨_, d0, d1⟩, io3, ⟨_, x0, x1⟩, ix3, _⟩ := M3.out
      go_wp2_with fail
      refine (equalSpace_was _ _ _ _ _ _ _ _ _ true io3 ix3 hLl hLl (eqS_refl _ _)).mono ?_
      rintro e w4 ⟨rfl, b4⟩
      have M4 := hide (M3.out.below b4)
      clear d0 d1 x0 x1 io3 ix3 b4
      obtain ⟨_, _, ⟨_, d0, d1⟩, io4, ⟨_, x0, x1⟩, ix4, _⟩ := M4.out
      go_wp2_with fail
      refine (equalSpace_was _ _ _ _ _ _ _ _ _ true io4 ix4 hLl hLl (eqS_refl _ _)).mono ?_
      rintro e w5 ⟨rfl, b5⟩
      go_wp2
      go_ret
      exact ⟨rfl, bnext HB.out (M4.out.below b5).2.2.2.2.2.2⟩
    · have hB : hiB m ss j = true := by simpa using hB
      obtain ⟨f1, f2, f3, f4, f5, f6⟩ := flip_law hB
      have HBB := hide hB
      have HN : Hid (fpN m ss j = m) := fpN_yes hB
      obtain ⟨L, hL⟩ : ∃ L, fpL m ss j = L := ⟨_, rfl⟩
      rw [hL] at f1 f2 f3 f4 f5 f6
      have HL := hide hL
      have HN2 : Hid (fpN m L j = m) := fpN_yes f1
      have HB2 := hide f1
      have HL2 := hide f2
      have hLl : L.length ≤ 1048576 := by omega
      obtain ⟨r, hr⟩ : ∃ r, closedB med m ss = r := ⟨_, rfl⟩
      obtain ⟨q, hq⟩ : ∃ q, closedB par m ss = q := ⟨_, rfl⟩
      obtain ⟨K, hK⟩ : ∃ K, (crR m ss).length = K := ⟨_, rfl⟩
      rw [hr] at f3
      rw [hq] at f4
      rw [hK] at f5
      have HR := hide hr
      have HQ := hide hq
      have HK1 := hide hK
      have HR2 := hide f3
      have HQ2 := hide f4
      have HK2 := hide f5
      have hrr : (r == r) = true := by simp
      have hqq : (q == q) = true := by simp
      have hkk : ((K : Int) == (K : Int)) = true := by simp
      obtain ⟨N, hNm⟩ : ∃ N : Nat, m = (N : Int) := ⟨m.toNat, by have := (valid_of (hiB_iff.1 hB).1).1; omega⟩
      subst hNm
      clear hB hL f1 f2 f3 f4 f5 f6 hr hq hK
      go_wp2_with fail
      refine (flipP_was _ _ _ _ _ (N : Int) L true _ S0.2.1 hn HN.out HL.out HBB.out).mono ?_
      rintro e w2 ⟨vo, rfl, oo, b2⟩
      obtain ⟨oa, oc, rfl, io, _⟩ := oo.form
      have HOC := hide oo.cap
      have bo := bel1 w2 (.cells #[.int .i64 (N : Int), .slice oa L.length oc] 26)
      have S2 := (S0.below b2).below bo
      have bx := Box.new w2 (N : Int) oa L.length oc 26
      obtain ⟨g2, hg2⟩ : ∃ g2, g2 = w2.heap.size := ⟨_, rfl⟩
      rw [← hg2] at bx
      have M2 : Hid (FC w1 (N : Int) av ss cv g2 (N : Int) oa L oc g2 (N : Int) oa L oc (w2.alloc (.cells #[.int .i64 (N : Int), .slice oa L.length oc] 26))) := ⟨S2.1, S2.2.1, bx, io.below bo, bx, io.below bo, S2.2.2.2⟩
      clear c0 c1 S0 b2 oo io bo S2 bx
      go_upto_region 5 with fail
      rw [← hg2]
      obtain ⟨W, hW⟩ : ∃ W : World, W = w2.alloc (.cells #[.int .i64 (N : Int), .slice oa L.length oc] 26) := ⟨_, rfl⟩
      rw [← hW] at M2 ⊢
      clear hW hg2
      obtain ⟨⟨_, c0, c1⟩, is2, ⟨_, d0, d1⟩, _⟩ := M2.out
      go_wp2_with fail
      refine (flipS_was _ _ _ _ _ (N : Int) L true _ is2 hn HN.out HL.out HBB.out).mono ?_
      rintro e w3 ⟨vo, rfl, oo, b3⟩
      obtain ⟨xa, xc, rfl, io, _⟩ := oo.form
      have bo := bel1 w3 (.cells #[.int .i64 (N : Int), .slice xa L.length xc] 26)
      have bx := Box.new w3 (N : Int) xa L.length xc 26
      obtain ⟨g3, hg3⟩ : ∃ g3, g3 = w3.heap.size := ⟨_, rfl⟩
      rw [← hg3] at bx
      have M3 := hide (((M2.out.below b3).below bo).third bx (io.below bo))
      clear c0 c1 d0 d1 b3 oo io bo bx is2 M2
      go_upto_region 6 with fail
      rw [← hg3]
      obtain ⟨W3, hW⟩ : ∃ W : World, W = w3.alloc (.cells #[.int .i64 (N : Int), .slice xa L.length xc] 26) := ⟨_, rfl⟩
      rw [← hW] at M3 ⊢
      clear hW hg3
      obtain ⟨_, _, ⟨_, d0, d1⟩, io3, ⟨_, x0, x1⟩, ix3, _⟩ := M3.out
      go_wp2_with fail
      refine (equalSpace_was _ _ _ _ _ _ _ _ _ true io3 ix3 hLl hLl (eqS_refl _ _)).mono ?_
      rintro e w4 ⟨rfl, b4⟩
      have M4 := hide (M3.out.below b4)
      clear d0 d1 x0 x1 io3 ix3 b4
      obtain ⟨⟨_, c0, c1⟩, _, ⟨_, d0, d1⟩, io4, _⟩ := M4.out
      go_wp2_with fail
      refine (flipP_was _ _ _ _ _ (N : Int) ss true _ io4 hLl HN2.out HL2.out HB2.out).mono ?_
      rintro e w9 ⟨vo, rfl, oo, b9⟩
      obtain ⟨xa, xc, rfl, io, _⟩ := oo.form
      have bo := bel1 w9 (.cells #[.int .i64 (N : Int), .slice xa ss.length xc] 26)
      have bx := Box.new w9 (N : Int) xa ss.length xc 26
      obtain ⟨g8, hg8⟩ : ∃ g8, g8 = w9.heap.size := ⟨_, rfl⟩
      rw [← hg8] at bx
      have M10 := hide (((M4.out.below b9).below bo).third bx (io.below bo))
      clear c0 c1 d0 d1 b9 oo io bo bx io4 M4 M3
      go_upto_region 9 with fail
      rw [← hg8]
      obtain ⟨W9, hW⟩ : ∃ W : World, W = w9.alloc (.cells #[.int .i64 (N : Int), .slice xa ss.length xc] 26) := ⟨_, rfl⟩
      rw [← hW] at M10 ⊢
      clear hW hg8
      have MD := hide M10.out.drew
      have is10 := MD.out.2.1
      have io10 := MD.out.2.2.2.1
      have ix10 := MD.out.2.2.2.2.2.1
      obtain ⟨⟨_, c0, c1⟩, _, ⟨_, d0, d1⟩, _, ⟨_, x0, x1⟩, _⟩ := M10.out
      have HC10 : Hid (W9.drew.cell? ⟨w1.heap.size, 0, none⟩ = some (.int .i64 (N : Int)) ∧ W9.drew.cell? ⟨w1.heap.size, 1, none⟩ = some (.slice av ss.length cv) ∧ W9.drew.cell? ⟨g2, 0, none⟩ = some (.int .i64 (N : Int)) ∧ W9.drew.cell? ⟨g2, 1, none⟩ = some (.slice oa L.length oc) ∧ W9.drew.cell? ⟨g8, 0, none⟩ = some (.int .i64 (N : Int)) ∧ W9.drew.cell? ⟨g8, 1, none⟩ = some (.slice xa ss.length xc)) := ⟨MD.out.1.2.1, MD.out.1.2.2, MD.out.2.2.1.2.1, MD.out.2.2.1.2.2, MD.out.2.2.2.2.1.2.1, MD.out.2.2.2.2.1.2.2⟩
      go_region_held3 (fun w' => w'.cell? ⟨w1.heap.size, 0, none⟩ = some (.int .i64 (N : Int)) ∧ w'.cell? ⟨w1.heap.size, 1, none⟩ = some (.slice av ss.length cv) ∧ w'.cell? ⟨g2, 0, none⟩ = some (.int .i64 (N : Int)) ∧ w'.cell? ⟨g2, 1, none⟩ = some (.slice oa L.length oc) ∧ w'.cell? ⟨g8, 0, none⟩ = some (.int .i64 (N : Int)) ∧ w'.cell? ⟨g8, 1, none⟩ = some (.slice xa ss.length xc)) (first | exact HC10.out | exact HC17.out | exact HC16.out | exact HC15.out | exact HC14.out | exact HC13.out | exact HC12.out | exact HC11.out | go_keep) (first
        | (go_at_call 21; (with_reducible refine (equalSpace_was _ _ _ _ _ _ _ _ _ true ix10 is10 hn hn (eqS_refl _ _)).mono ?_); rintro e w11 ⟨rfl, b11⟩; have M11 := hide (MD.out.below b11); have is11 := M11.out.2.1; have io11 := M11.out.2.2.2.1; have ix11 := M11.out.2.2.2.2.2.1; have HC11 := hide (show w11.cell? ⟨w1.heap.size, 0, none⟩ = some (.int .i64 (N : Int)) ∧ w11.cell? ⟨w1.heap.size, 1, none⟩ = some (.slice av ss.length cv) ∧ w11.cell? ⟨g2, 0, none⟩ = some (.int .i64 (N : Int)) ∧ w11.cell? ⟨g2, 1, none⟩ = some (.slice oa L.length oc) ∧ w11.cell? ⟨g8, 0, none⟩ = some (.int .i64 (N : Int)) ∧ w11.cell? ⟨g8, 1, none⟩ = some (.slice xa ss.length xc) from ⟨M11.out.1.2.1, M11.out.1.2.2, M11.out.2.2.1.2.1, M11.out.2.2.1.2.2, M11.out.2.2.2.2.1.2.1, M11.out.2.2.2.2.1.2.2⟩); clear b11)
        | (go_at_call 22; (with_reducible refine (implMed_was _ _ _ _ _ r io11 hLl HOC.out HR2.out).mono ?_); rintro e w12 ⟨rfl, b12⟩; have M12 := hide (M11.out.below b12); have is12 := M12.out.2.1; have io12 := M12.out.2.2.2.1; have ix12 := M12.out.2.2.2.2.2.1; have HC12 := hide (show w12.cell? ⟨w1.heap.size, 0, none⟩ = some (.int .i64 (N : Int)) ∧ w12.cell? ⟨w1.heap.size, 1, none⟩ = some (.slice av ss.length cv) ∧ w12.cell? ⟨g2, 0, none⟩ = some (.int .i64 (N : Int)) ∧ w12.cell? ⟨g2, 1, none⟩ = some (.slice oa L.length oc) ∧ w12.cell? ⟨g8, 0, none⟩ = some (.int .i64 (N : Int)) ∧ w12.cell? ⟨g8, 1, none⟩ = some (.slice xa ss.length xc) from ⟨M12.out.1.2.1, M12.out.1.2.2, M12.out.2.2.1.2.1, M12.out.2.2.1.2.2, M12.out.2.2.2.2.1.2.1, M12.out.2.2.2.2.1.2.2⟩); clear b12)
        | (go_at_call 22; (with_reducible refine (implMed_was _ _ _ _ _ r is12 hn HCV.out HR.out).mono ?_); rintro e w13 ⟨rfl, b13⟩; have M13 := hide (M12.out.below b13); have is13 := M13.out.2.1; have io13 := M13.out.2.2.2.1; have ix13 := M13.out.2.2.2.2.2.1; have HC13 := hide (show w13.cell? ⟨w1.heap.size, 0, none⟩ = some (.int .i64 (N : Int)) ∧ w13.cell? ⟨w1.heap.size, 1, none⟩ = some (.slice av ss.length cv) ∧ w13.cell? ⟨g2, 0, none⟩ = some (.int .i64 (N : Int)) ∧ w13.cell? ⟨g2, 1, none⟩ = some (.slice oa L.length oc) ∧ w13.cell? ⟨g8, 0, none⟩ = some (.int .i64 (N : Int)) ∧ w13.cell? ⟨g8, 1, none⟩ = some (.slice xa ss.length xc) from ⟨M13.out.1.2.1, M13.out.1.2.2, M13.out.2.2.1.2.1, M13.out.2.2.1.2.2, M13.out.2.2.2.2.1.2.1, M13.out.2.2.2.2.1.2.2⟩); clear b13)
        | (go_at_call 23; (with_reducible refine (implEvn_was _ _ _ _ _ q io13 hLl HOC.out HQ2.out).mono ?_); rintro e w14 ⟨rfl, b14⟩; have M14 := hide (M13.out.below b14); have is14 := M14.out.2.1; have io14 := M14.out.2.2.2.1; have ix14 := M14.out.2.2.2.2.2.1; have HC14 := hide (show w14.cell? ⟨w1.heap.size, 0, none⟩ = some (.int .i64 (N : Int)) ∧ w14.cell? ⟨w1.heap.size, 1, none⟩ = some (.slice av ss.length cv) ∧ w14.cell? ⟨g2, 0, none⟩ = some (.int .i64 (N : Int)) ∧ w14.cell? ⟨g2, 1, none⟩ = some (.slice oa L.length oc) ∧ w14.cell? ⟨g8, 0, none⟩ = some (.int .i64 (N : Int)) ∧ w14.cell? ⟨g8, 1, none⟩ = some (.slice xa ss.length xc) from ⟨M14.out.1.2.1, M14.out.1.2.2, M14.out.2.2.1.2.1, M14.out.2.2.1.2.2, M14.out.2.2.2.2.1.2.1, M14.out.2.2.2.2.1.2.2⟩); clear b14)
        | (go_at_call 23; (with_reducible refine (implEvn_was _ _ _ _ _ q is14 hn HCV.out HQ.out).mono ?_); rintro e w15 ⟨rfl, b15⟩; have M15 := hide (M14.out.below b15); have is15 := M15.out.2.1; have io15 := M15.out.2.2.2.1; have ix15 := M15.out.2.2.2.2.2.1; have HC15 := hide (show w15.cell? ⟨w1.heap.size, 0, none⟩ = some (.int .i64 (N : Int)) ∧ w15.cell? ⟨w1.heap.size, 1, none⟩ = some (.slice av ss.length cv) ∧ w15.cell? ⟨g2, 0, none⟩ = some (.int .i64 (N : Int)) ∧ w15.cell? ⟨g2, 1, none⟩ = some (.slice oa L.length oc) ∧ w15.cell? ⟨g8, 0, none⟩ = some (.int .i64 (N : Int)) ∧ w15.cell? ⟨g8, 1, none⟩ = some (.slice xa ss.length xc) from ⟨M15.out.1.2.1, M15.out.1.2.2, M15.out.2.2.1.2.1, M15.out.2.2.1.2.2, M15.out.2.2.2.2.1.2.1, M15.out.2.2.2.2.1.2.2⟩); clear b15)
        | (go_at_call 24; (with_reducible refine (critN_was _ _ _ _ K _ io15 hLl HK2.out).mono ?_); rintro e w16 ⟨va16, vc16, rfl, b16⟩; have M16 := hide (M15.out.below b16); have is16 := M16.out.2.1; have io16 := M16.out.2.2.2.1; have ix16 := M16.out.2.2.2.2.2.1; have HC16 := hide (show w16.cell? ⟨w1.heap.size, 0, none⟩ = some (.int .i64 (N : Int)) ∧ w16.cell? ⟨w1.heap.size, 1, none⟩ = some (.slice av ss.length cv) ∧ w16.cell? ⟨g2, 0, none⟩ = some (.int .i64 (N : Int)) ∧ w16.cell? ⟨g2, 1, none⟩ = some (.slice oa L.length oc) ∧ w16.cell? ⟨g8, 0, none⟩ = some (.int .i64 (N : Int)) ∧ w16.cell? ⟨g8, 1, none⟩ = some (.slice xa ss.length xc) from ⟨M16.out.1.2.1, M16.out.1.2.2, M16.out.2.2.1.2.1, M16.out.2.2.1.2.2, M16.out.2.2.2.2.1.2.1, M16.out.2.2.2.2.1.2.2⟩); clear b16)
        | (go_at_call 24; (with_reducible refine (critN_was _ _ _ _ K _ is16 hn HK1.out).mono ?_); rintro e w17 ⟨va17, vc17, rfl, b17⟩; have M17 := hide (M16.out.below b17); have is17 := M17.out.2.1; have io17 := M17.out.2.2.2.1; have ix17 := M17.out.2.2.2.2.2.1; have HC17 := hide (show w17.cell? ⟨w1.heap.size, 0, none⟩ = some (.int .i64 (N : Int)) ∧ w17.cell? ⟨w1.heap.size, 1, none⟩ = some (.slice av ss.length cv) ∧ w17.cell? ⟨g2, 0, none⟩ = some (.int .i64 (N : Int)) ∧ w17.cell? ⟨g2, 1, none⟩ = some (.slice oa L.length oc) ∧ w17.cell? ⟨g8, 0, none⟩ = some (.int .i64 (N : Int)) ∧ w17.cell? ⟨g8, 1, none⟩ = some (.slice xa ss.length xc) from ⟨M17.out.1.2.1, M17.out.1.2.2, M17.out.2.2.1.2.1, M17.out.2.2.1.2.2, M17.out.2.2.2.2.1.2.1, M17.out.2.2.2.2.1.2.2⟩); clear b17))
      all_goals
        go_wp2
        go_ret
        exact ⟨rfl, bnext HB.out M17.out.2.2.2.2.2.2⟩
end Go.Proofs.Ytbnnblfgpdfmpaa
