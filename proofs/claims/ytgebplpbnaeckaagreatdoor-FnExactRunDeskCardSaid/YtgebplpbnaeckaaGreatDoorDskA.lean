/- The desk of the program: what is asked of a space, or of votes in it. -/
import Derived.Test.YtgebplpbnaeckaaGreatDoorMg24
import Derived.Test.YtgebplpbnaeckaaGreatDoorMg15
import Derived.Test.YtgebplpbnaeckaaGreatDoorBkI
import Derived.Test.YtgebplpbnaeckaaGreatDoorMedI
import Derived.Test.YtgebplpbnaeckaaGreatDoorMg28
import Derived.Test.YtgebplpbnaeckaaGreatDoorMg29
import Derived.Test.YtgebplpbnaeckaaGreatDoorMg02
namespace Go.Proofs.YtgebplpbnaeckaaGreatDoor
open Go.RowKit Go.Joins

theorem yesOrNo_was (b : Bool) (S : ByteArray) (w : World) (h : yesB b = S) : Calls Tryz.prog 76 #[.bool b] w fun e w' => e = .returned (.string S) ∧ w = w' := by
  subst h
  cases b <;> (go_enter Tryz.func76, Tryz.ntmps76; go_wp2; go_ret; exact ⟨rfl, rfl⟩)
theorem itoa_nat (n : Nat) (S : ByteArray) (w : World) (h : n < 100) (hS : numS n = S) : Calls Tryz.prog 73 #[.int .i64 n] w fun e w' => e = .returned (.string S) ∧ w' = w := by
  subst hS
  exact Tryz.strconv_Itoa_small n h w
theorem critI_was (n : Int) (K : Nat) (a : Option Addr) (cap : Nat) (zs : List Int) (w : World) (hi : Ints w a zs) (hn : zs.length ≤ 1048576) (hV : Valid n zs) (hK : (critL n.toNat zs).length = K) :
    Calls Tryz.prog 74 #[.agg #[.int .i64 n, .slice a zs.length cap]] w fun e w' => ∃ va vc, e = .returned (.slice va K vc) ∧ Below w.heap.size w w' := by
  refine (implCriticalParts_any n a cap zs w hi hn).mono ?_
  rintro e w' ⟨v, rfl, ow, hb⟩
  obtain ⟨va, vc, rfl, _⟩ := ow.form
  exact ⟨va, vc, by rw [← hK, crR_yes (vsB_true hV)]; simp [ofP], hb⟩
theorem medianI_was (n : Int) (a : Option Addr) (cap : Nat) (zs : List Int) (w : World) (r : Bool) (hi : Ints w a zs) (hn : zs.length ≤ 1048576) (hc : zs.length ≤ cap) (hr : closedB med n zs = r) :
    Calls Tryz.prog 77 #[.agg #[.int .i64 n, .slice a zs.length cap]] w fun e w' => e = .returned (.bool r) ∧ Below w.heap.size w w' := by
  subst hr; exact implIsMedian_any n a cap zs w hi hn hc
theorem blockedI_was (n : Int) (a : Option Addr) (cap : Nat) (zs : List Int) (w : World) (r : Bool) (hi : Ints w a zs) (hn : zs.length ≤ 1048576) (hr : blkB n zs = r) :
    Calls Tryz.prog 79 #[.agg #[.int .i64 n, .slice a zs.length cap]] w fun e w' => e = .returned (.bool r) ∧ Below w.heap.size w w' := by
  subst hr; exact implIsBlocked_any n a cap zs w hi hn
theorem majI_was (n : Int) (K : Nat) (a l : Option Addr) (cap capl : Nat) (zs vs : List Int) (w : World) (hi : Ints w a zs) (hj : Ints w l vs) (hn : zs.length ≤ 1048576) (hm : vs.length ≤ 1048576) (hv : vvB n zs vs = true) (hK : wantB vs n.toNat = K) :
    Calls Tryz.prog 82 #[.agg #[.int .i64 n, .slice a zs.length cap], .slice l vs.length capl] w fun e w' => e = .returned (.int .i64 K) ∧ Below w.heap.size w w' := by
  rw [← hK, ← majV_yes hv]; exact implMajorityOf_any n a l cap capl zs vs w hi hj hn hm
theorem mdnsI_was (n : Int) (a l : Option Addr) (cap capl : Nat) (zs vs L : List Int) (w : World) (hi : Ints w a zs) (hj : Ints w l vs) (hn : zs.length ≤ 1048576) (hm : vs.length ≤ 1048576) (hL : bestA n zs vs = L) :
    Calls Tryz.prog 85 #[.agg #[.int .i64 n, .slice a zs.length cap], .slice l vs.length capl] w fun e w' => ∃ va vc, e = .returned (.slice va L.length vc) ∧ Ints w' va L ∧ Below w.heap.size w w' := by
  subst hL
  refine (implMedianRule_any n a l cap capl zs vs w hi hj hn hm).mono ?_
  rintro e w' ⟨v, rfl, ow, hb⟩
  obtain ⟨va, vc, rfl, iv, _⟩ := ow.form
  exact ⟨va, vc, rfl, iv, hb⟩
theorem slatI_was (n : Int) (a l : Option Addr) (cap capl : Nat) (zs vs L : List Int) (w : World) (hi : Ints w a zs) (hj : Ints w l vs) (hn : zs.length ≤ 1048576) (hm : vs.length ≤ 1048576) (hL : bestM n zs vs = L) :
    Calls Tryz.prog 87 #[.agg #[.int .i64 n, .slice a zs.length cap], .slice l vs.length capl] w fun e w' => ∃ va vc, e = .returned (.slice va L.length vc) ∧ Ints w' va L ∧ Below w.heap.size w w' := by
  subst hL
  refine (implSlaterRule_any n a l cap capl zs vs w hi hj hn hm).mono ?_
  rintro e w' ⟨v, rfl, ow, hb⟩
  obtain ⟨va, vc, rfl, iv, _⟩ := ow.form
  exact ⟨va, vc, rfl, iv, hb⟩
theorem rankI_was (n : Int) (K : Nat) (a l : Option Addr) (cap capl : Nat) (zs vs : List Int) (w : World) (hi : Ints w a zs) (hj : Ints w l vs) (hn : zs.length ≤ 1048576) (hm : vs.length ≤ 1048576) (h0 : 0 ≤ rankV n zs vs) (hK : (rankV n zs vs).toNat = K) :
    Calls Tryz.prog 89 #[.agg #[.int .i64 n, .slice a zs.length cap], .slice l vs.length capl] w fun e w' => e = .returned (.int .i64 K) ∧ Below w.heap.size w w' := by
  have e : rankV n zs vs = (K : Int) := by omega
  rw [← e]; exact implRankedRule_any n a l cap capl zs vs w hi hj hn hm
theorem numsI_was (L : List Int) (a : Option Addr) (len cap : Nat) (S : ByteArray) (w : World) (hi : Ints w a L) (hb : (∀ x ∈ L, 0 ≤ x ∧ x < 100) ∧ L.length ≤ 16) (hl : L.length = len) (hS : lstS L len = S) :
    Calls Tryz.prog 84 #[.slice a len cap] w fun e w' => e = .returned (.string S) ∧ Below w.heap.size w w' := by
  subst hl hS; exact numbersText_any a cap L w hi hb.1 (by omega)
set_option maxHeartbeats 2000000 in
theorem askCrit_any (n : Int) (S : ByteArray) (a : Option Addr) (cap : Nat) (zs : List Int) (w : World) (hi : Ints w a zs) (_hc : zs.length ≤ cap) (hV : Valid n zs) (hS : (askS wCrit n zs).getD wrongB = S) :
    Calls Tryz.prog 72 #[.agg #[.int .i64 n, .slice a zs.length cap]] w fun e w' => e = .returned (.string S) ∧ Below w.heap.size w w' := by
  obtain ⟨K, hK⟩ : ∃ K, (critL n.toNat zs).length = K := ⟨_, rfl⟩
  rw [askS_crit, hK] at hS
  have hk : K ≤ 81 := hK ▸ crit_81 n.toNat zs (by have := hV.1; omega)
  have hz := valid_len hV
  have HV := hide hV
  have HK := hide hK
  have HS := hide hS
  have bw := Box.new w n a zs.length cap 37
  have B1 := bel1 w (.cells #[.int .i64 n, .slice a zs.length cap] 37)
  have i1 := hi.below B1
  obtain ⟨_, p0, p1⟩ := bw.pair
  clear hi hV hK hS
  go_enter Tryz.func72, Tryz.ntmps72
  go_wp2_with fail
  refine (critI_was n K _ _ _ _ i1 (by omega) HV.out HK.out).mono ?_
  rintro e w2 ⟨va, vc, rfl, hb2⟩
  go_wp2_with fail
  refine (itoa_nat K S _ (by omega) HS.out).mono ?_
  rintro e w3 ⟨rfl, rfl⟩
  go_wp2
  go_ret
  exact ⟨rfl, bnext B1 hb2⟩
set_option maxHeartbeats 2000000 in
theorem askMedn_any (n : Int) (S : ByteArray) (a : Option Addr) (cap : Nat) (zs : List Int) (w : World) (hi : Ints w a zs) (hc : zs.length ≤ cap) (hV : Valid n zs) (hS : (askS wMedn n zs).getD wrongB = S) :
    Calls Tryz.prog 75 #[.agg #[.int .i64 n, .slice a zs.length cap]] w fun e w' => e = .returned (.string S) ∧ Below w.heap.size w w' := by
  obtain ⟨r, hr⟩ : ∃ r, closedB med n zs = r := ⟨_, rfl⟩
  rw [askS_medn, hr] at hS
  have hz := valid_len hV
  have HK := hide hr
  have HS := hide hS
  have bw := Box.new w n a zs.length cap 37
  have B1 := bel1 w (.cells #[.int .i64 n, .slice a zs.length cap] 37)
  have i1 := hi.below B1
  obtain ⟨_, p0, p1⟩ := bw.pair
  clear hi hV hr hS
  go_enter Tryz.func75, Tryz.ntmps75
  go_wp2_with fail
  refine (medianI_was n _ _ _ _ r i1 (by omega) hc HK.out).mono ?_
  rintro e w2 ⟨rfl, hb2⟩
  go_wp2_with fail
  refine (yesOrNo_was r S _ HS.out).mono ?_
  rintro e w3 ⟨rfl, rfl⟩
  go_wp2
  go_ret
  exact ⟨rfl, bnext B1 hb2⟩
set_option maxHeartbeats 2000000 in
theorem askBlck_any (n : Int) (S : ByteArray) (a : Option Addr) (cap : Nat) (zs : List Int) (w : World) (hi : Ints w a zs) (_hc : zs.length ≤ cap) (hV : Valid n zs) (hS : (askS wBlck n zs).getD wrongB = S) :
    Calls Tryz.prog 78 #[.agg #[.int .i64 n, .slice a zs.length cap]] w fun e w' => e = .returned (.string S) ∧ Below w.heap.size w w' := by
  obtain ⟨r, hr⟩ : ∃ r, blkB n zs = r := ⟨_, rfl⟩
  rw [askS_blck, hr] at hS
  have hz := valid_len hV
  have HK := hide hr
  have HS := hide hS
  have bw := Box.new w n a zs.length cap 37
  have B1 := bel1 w (.cells #[.int .i64 n, .slice a zs.length cap] 37)
  have i1 := hi.below B1
  obtain ⟨_, p0, p1⟩ := bw.pair
  clear hi hV hr hS
  go_enter Tryz.func78, Tryz.ntmps78
  go_wp2_with fail
  refine (blockedI_was n _ _ _ _ r i1 (by omega) HK.out).mono ?_
  rintro e w2 ⟨rfl, hb2⟩
  go_wp2_with fail
  refine (yesOrNo_was r S _ HS.out).mono ?_
  rintro e w3 ⟨rfl, rfl⟩
  go_wp2
  go_ret
  exact ⟨rfl, bnext B1 hb2⟩
set_option maxHeartbeats 2000000 in
theorem askMajr_any (n : Int) (S : ByteArray) (a l : Option Addr) (cap capl : Nat) (zs vs : List Int) (w : World) (hi : Ints w a zs) (hj : Ints w l vs) (hV : Valid n zs) (hm : vs.length ≤ 1048576) (hvb : votesB zs vs = true) (hS : (askV wMajr n zs vs).getD wrongB = S) :
    Calls Tryz.prog 81 #[.agg #[.int .i64 n, .slice a zs.length cap], .slice l vs.length capl] w fun e w' => e = .returned (.string S) ∧ Below w.heap.size w w' := by
  have hvv : vvB n zs vs = true := by unfold vvB; rw [vsB_true hV, hvb]; rfl
  have hz := valid_len hV
  obtain ⟨K, hK⟩ : ∃ K, wantB vs n.toNat = K := ⟨_, rfl⟩
  rw [askV_majr, hK] at hS
  have hk : K < 100 := by have := want_in vs hV; rw [hK] at this; omega
  have HK := hide hK
  have HS := hide hS
  clear hK hS
  have bw := Box.new w n a zs.length cap 37
  have B1 := bel1 w (.cells #[.int .i64 n, .slice a zs.length cap] 37)
  have i1 := hi.below B1
  have j1 := hj.below B1
  obtain ⟨_, p0, p1⟩ := bw.pair
  have HVV := hide hvv
  clear hi hj hV hvb hvv
  go_enter Tryz.func81, Tryz.ntmps81
  go_wp2_with fail
  refine (majI_was n K _ _ _ _ _ _ _ i1 j1 (by omega) hm HVV.out HK.out).mono ?_
  rintro e w2 ⟨rfl, hb2⟩
  go_wp2_with fail
  refine (itoa_nat K S _ hk HS.out).mono ?_
  rintro e w3 ⟨rfl, rfl⟩
  go_wp2
  go_ret
  exact ⟨rfl, bnext B1 hb2⟩
set_option maxHeartbeats 2000000 in
theorem askMdns_any (n : Int) (S : ByteArray) (a l : Option Addr) (cap capl : Nat) (zs vs : List Int) (w : World) (hi : Ints w a zs) (hj : Ints w l vs) (hV : Valid n zs) (hm : vs.length ≤ 1048576) (hvb : votesB zs vs = true) (hS : (askV wMdns n zs vs).getD wrongB = S) :
    Calls Tryz.prog 83 #[.agg #[.int .i64 n, .slice a zs.length cap], .slice l vs.length capl] w fun e w' => e = .returned (.string S) ∧ Below w.heap.size w w' := by
  have hvv : vvB n zs vs = true := by unfold vvB; rw [vsB_true hV, hvb]; rfl
  have hz := valid_len hV
  obtain ⟨L, hL⟩ : ∃ L, bestA n zs vs = L := ⟨_, rfl⟩
  rw [askV_mdns, hL] at hS
  have HB := hide (bestA_in (vs := vs) hV)
  rw [hL] at HB
  have HK := hide hL
  obtain ⟨len, hlen⟩ : ∃ len, L.length = len := ⟨_, rfl⟩
  rw [hlen] at hS
  have HS := hide hS
  have HLN := hide hlen
  clear hL hS hlen
  have bw := Box.new w n a zs.length cap 37
  have B1 := bel1 w (.cells #[.int .i64 n, .slice a zs.length cap] 37)
  have i1 := hi.below B1
  have j1 := hj.below B1
  obtain ⟨_, p0, p1⟩ := bw.pair
  have HVV := hide hvv
  clear hi hj hV hvb hvv
  go_enter Tryz.func83, Tryz.ntmps83
  go_wp2_with fail
  refine (mdnsI_was n _ _ _ _ _ _ L _ i1 j1 (by omega) hm HK.out).mono ?_
  rintro e w2 ⟨va, vc, rfl, il, hb2⟩
  rw [HLN.out]
  go_wp2_with fail
  refine (numsI_was L _ _ _ S _ il HB.out HLN.out HS.out).mono ?_
  rintro e w3 ⟨rfl, hb3⟩
  go_wp2
  go_ret
  exact ⟨rfl, bnext (bnext B1 hb2) hb3⟩
set_option maxHeartbeats 2000000 in
theorem askSlat_any (n : Int) (S : ByteArray) (a l : Option Addr) (cap capl : Nat) (zs vs : List Int) (w : World) (hi : Ints w a zs) (hj : Ints w l vs) (hV : Valid n zs) (hm : vs.length ≤ 1048576) (hvb : votesB zs vs = true) (hS : (askV wSlat n zs vs).getD wrongB = S) :
    Calls Tryz.prog 86 #[.agg #[.int .i64 n, .slice a zs.length cap], .slice l vs.length capl] w fun e w' => e = .returned (.string S) ∧ Below w.heap.size w w' := by
  have hvv : vvB n zs vs = true := by unfold vvB; rw [vsB_true hV, hvb]; rfl
  have hz := valid_len hV
  obtain ⟨L, hL⟩ : ∃ L, bestM n zs vs = L := ⟨_, rfl⟩
  rw [askV_slat, hL] at hS
  have HB := hide (bestM_in (vs := vs) hV)
  rw [hL] at HB
  have HK := hide hL
  obtain ⟨len, hlen⟩ : ∃ len, L.length = len := ⟨_, rfl⟩
  rw [hlen] at hS
  have HS := hide hS
  have HLN := hide hlen
  clear hL hS hlen
  have bw := Box.new w n a zs.length cap 37
  have B1 := bel1 w (.cells #[.int .i64 n, .slice a zs.length cap] 37)
  have i1 := hi.below B1
  have j1 := hj.below B1
  obtain ⟨_, p0, p1⟩ := bw.pair
  have HVV := hide hvv
  clear hi hj hV hvb hvv
  go_enter Tryz.func86, Tryz.ntmps86
  go_wp2_with fail
  refine (slatI_was n _ _ _ _ _ _ L _ i1 j1 (by omega) hm HK.out).mono ?_
  rintro e w2 ⟨va, vc, rfl, il, hb2⟩
  rw [HLN.out]
  go_wp2_with fail
  refine (numsI_was L _ _ _ S _ il HB.out HLN.out HS.out).mono ?_
  rintro e w3 ⟨rfl, hb3⟩
  go_wp2
  go_ret
  exact ⟨rfl, bnext (bnext B1 hb2) hb3⟩
set_option maxHeartbeats 2000000 in
theorem askRank_any (n : Int) (S : ByteArray) (a l : Option Addr) (cap capl : Nat) (zs vs : List Int) (w : World) (hi : Ints w a zs) (hj : Ints w l vs) (hV : Valid n zs) (hm : vs.length ≤ 1048576) (hvb : votesB zs vs = true) (hS : (askV wRank n zs vs).getD wrongB = S) :
    Calls Tryz.prog 88 #[.agg #[.int .i64 n, .slice a zs.length cap], .slice l vs.length capl] w fun e w' => e = .returned (.string S) ∧ Below w.heap.size w w' := by
  have hvv : vvB n zs vs = true := by unfold vvB; rw [vsB_true hV, hvb]; rfl
  have hz := valid_len hV
  obtain ⟨K, hK⟩ : ∃ K, (rankV n zs vs).toNat = K := ⟨_, rfl⟩
  rw [askV_rank, hK] at hS
  have hri := rank_in hV hvb
  have hk : K < 100 := by omega
  have HR0 := hide hri.1
  clear hri
  have HK := hide hK
  have HS := hide hS
  clear hK hS
  have bw := Box.new w n a zs.length cap 37
  have B1 := bel1 w (.cells #[.int .i64 n, .slice a zs.length cap] 37)
  have i1 := hi.below B1
  have j1 := hj.below B1
  obtain ⟨_, p0, p1⟩ := bw.pair
  have HVV := hide hvv
  clear hi hj hV hvb hvv
  go_enter Tryz.func88, Tryz.ntmps88
  go_wp2_with fail
  refine (rankI_was n K _ _ _ _ _ _ _ i1 j1 (by omega) hm HR0.out HK.out).mono ?_
  rintro e w2 ⟨rfl, hb2⟩
  go_wp2_with fail
  refine (itoa_nat K S _ hk HS.out).mono ?_
  rintro e w3 ⟨rfl, rfl⟩
  go_wp2
  go_ret
  exact ⟨rfl, bnext B1 hb2⟩
end Go.Proofs.YtgebplpbnaeckaaGreatDoor
