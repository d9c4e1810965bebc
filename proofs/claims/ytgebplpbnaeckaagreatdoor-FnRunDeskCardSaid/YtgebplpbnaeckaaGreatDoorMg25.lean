/- Texts of this seat one behind the other: DskS, DskW, StrH, OpS. Conditions: none. -/
import Derived.Test.YtgebplpbnaeckaaGreatDoorMg20
import Derived.Test.YtgebplpbnaeckaaGreatDoorMg04
import Derived.Test.YtgebplpbnaeckaaGreatDoorMg14
import Derived.Test.YtgebplpbnaeckaaGreatDoorMg15
import Derived.Test.YtgebplpbnaeckaaGreatDoorMg24
import Derived.Test.YtgebplpbnaeckaaGreatDoorMg23
import Derived.Test.YtgebplpbnaeckaaGreatDoorMg16
import Derived.Test.YtgebplpbnaeckaaGreatDoorMg13
import Derived.SliceStrings
import Derived.WalkKit
import Derived.OpenShut

/- DskS: The desk of the model: the answer to a line. (Written by tools/gendsks.py.) -/
namespace Go.Proofs.YtgebplpbnaeckaaGreatDoor
open Go.RowKit Go.Joins

theorem retS {a b : ByteArray} (h : a = b) : Ending.returned (.string a) = .returned (.string b) := by rw [h]
theorem four (a x y z : ByteArray) : a = x ∨ a = y ∨ a = z ∨ (¬ a = x ∧ ¬ a = y ∧ ¬ a = z) := by
  by_cases h1 : a = x
  · exact .inl h1
  by_cases h2 : a = y
  · exact .inr (.inl h2)
  by_cases h3 : a = z
  · exact .inr (.inr (.inl h3))
  exact .inr (.inr (.inr ⟨h1, h2, h3⟩))
theorem five (a x y z u : ByteArray) : a = x ∨ a = y ∨ a = z ∨ a = u ∨ (¬ a = x ∧ ¬ a = y ∧ ¬ a = z ∧ ¬ a = u) := by
  by_cases h1 : a = x
  · exact .inl h1
  by_cases h2 : a = y
  · exact .inr (.inl h2)
  by_cases h3 : a = z
  · exact .inr (.inr (.inl h3))
  by_cases h4 : a = u
  · exact .inr (.inr (.inr (.inl h4)))
  exact .inr (.inr (.inr (.inr ⟨h1, h2, h3, h4⟩)))
theorem tl_ne {a : ByteArray} {l : List UInt8} (h : ¬ a = ⟨l.toArray⟩) : (a.toList == l) = false := by
  rw [beq_eq_false_iff_ne]
  intro e
  rw [ByteArray.toList_eq] at e
  exact h (by rw [← e])
theorem three_pieces {c : UInt8} {l p q r : List UInt8} (h : [p, q, r] = spl c l) : r.length + 2 ≤ l.length := by
  have h1 := join_spl c l
  rw [← h, join_cc, join_cc, Lib.join_one] at h1
  rw [← h1]
  simp only [List.length_append, List.length_cons, List.length_nil]
  omega
theorem votes_small {n : Int} {zs vs : List Int} (hV : Valid n zs) (hv : votesB zs vs = true) : vs.length ≤ 5 ∧ ∀ x ∈ vs, 0 ≤ x ∧ x ≤ 15 := by
  have h : VotesOk zs vs := by simpa [votesB] using hv
  have hr := valid_range hV
  refine ⟨by have := h.2; omega, fun x hx => ?_⟩
  obtain ⟨j, hj, rfl⟩ := List.getElem_of_mem hx
  have := h.1 j hj
  rw [getD_lt hj] at this
  exact hr _ this
theorem yesNo_any (b : Bool) (w : World) : Calls Tryz.prog 37 #[.bool b] w fun e w' => e = .returned (.string (yesB b)) ∧ w = w' := by
  cases b <;> (go_enter Tryz.func37, Tryz.ntmps37; go_wp2; go_ret; exact ⟨rfl, rfl⟩)
theorem yesNo_was (b : Bool) (S : ByteArray) (w : World) (h : yesB b = S) : Calls Tryz.prog 37 #[.bool b] w fun e w' => e = .returned (.string S) ∧ w = w' := by
  subst h; exact yesNo_any b w
theorem number_nat (n : Nat) (S : ByteArray) (w : World) (h : n < 100) (hS : numS n = S) : Calls Tryz.prog 28 #[.int .i64 n] w fun e w' => e = .returned (.string S) ∧ w = w' := by
  subst hS; exact number_any n w h
theorem medianS_was (n : Int) (a : Option Addr) (cap : Nat) (zs : List Int) (w : World) (r : Bool) (hi : Ints w a zs) (hn : zs.length ≤ 1048576) (hr : closedB med n zs = r) :
    Calls Tryz.prog 38 #[.agg #[.int .i64 n, .slice a zs.length cap]] w fun e w' => e = .returned (.bool r) ∧ Below w.heap.size w w' := by
  subst hr; exact specIsMedian_any n a cap zs w hi hn
theorem blockedS_was (N : Nat) (a : Option Addr) (cap : Nat) (zs : List Int) (w : World) (r : Bool) (hi : Ints w a zs) (hn : zs.length ≤ 1048576) (hv : vsB (N : Int) zs = true) (hN : 1 ≤ N ∧ N ≤ 4) (hr : blkB (N : Int) zs = r) :
    Calls Tryz.prog 39 #[.agg #[.int .i64 (N : Int), .slice a zs.length cap]] w fun e w' => e = .returned (.bool r) ∧ Below w.heap.size w w' := by
  subst hr; exact blocked_any N a cap zs w hi hn hv hN
theorem critS_was (N K : Nat) (a : Option Addr) (cap : Nat) (zs : List Int) (w : World) (hi : Ints w a zs) (hn : zs.length ≤ 1048576) (hN : 1 ≤ N ∧ N ≤ 4) (hr : ∀ x ∈ zs, 0 ≤ x ∧ x ≤ 15) (hK : (critL N zs).length = K) :
    Calls Tryz.prog 36 #[.agg #[.int .i64 (N : Int), .slice a zs.length cap]] w fun e w' => ∃ va vc, e = .returned (.slice va K vc) ∧ Below w.heap.size w w' := by
  refine (critical_any N a cap zs w hi hn hN hr).mono ?_
  rintro e w' ⟨v, rfl, ow, hb⟩
  obtain ⟨va, vc, rfl, _⟩ := ow.form
  exact ⟨va, vc, by rw [← hK]; simp [ofP], hb⟩
theorem votesS_was (n : Int) (a l : Option Addr) (cap capl : Nat) (zs vs : List Int) (w : World) (r : Bool) (hi : Ints w a zs) (hj : Ints w l vs) (hn : zs.length ≤ 1048576) (hm : vs.length ≤ 1048576) (hr : votesB zs vs = r) :
    Calls Tryz.prog 19 #[.agg #[.int .i64 n, .slice a zs.length cap], .slice l vs.length capl] w fun e w' => e = .returned (.bool r) ∧ Below w.heap.size w w' := by
  subst hr; exact validVotes_any n a l cap capl zs vs w hi hj hn hm
theorem majS_was (m K : Nat) (a l : Option Addr) (cap capl len : Nat) (vs : List Int) (w : World) (hj : Ints w l vs) (h5 : vs.length ≤ 5) (h4 : m ≤ 4) (hr : ∀ x ∈ vs, 0 ≤ x ∧ x ≤ 15) (hK : wantB vs m = K) :
    Calls Tryz.prog 41 #[.agg #[.int .i64 m, .slice a len cap], .slice l vs.length capl] w fun e w' => e = .returned (.int .i64 K) ∧ Below w.heap.size w w' := by
  subst hK; exact majority_any m a l cap capl len vs w hj h5 h4 hr
theorem listS_was (L : List Int) (a : Option Addr) (len cap : Nat) (S : ByteArray) (w : World) (hi : Ints w a L) (hb : (∀ x ∈ L, 0 ≤ x ∧ x < 100) ∧ L.length ≤ 16) (hl : L.length = len) (hS : lstS L len = S) :
    Calls Tryz.prog 20 #[.slice a len cap] w fun e w' => e = .returned (.string S) ∧ w = w' := by
  subst hl hS; exact listText_any a cap L w hi hb.1 (by omega)
theorem mdnsS_was (n : Int) (a l : Option Addr) (cap capl : Nat) (zs vs L : List Int) (w : World) (hi : Ints w a zs) (hj : Ints w l vs) (hn : zs.length ≤ 1048576) (hm : vs.length ≤ 1048576) (hL : bestA n zs vs = L) :
    Calls Tryz.prog 42 #[.agg #[.int .i64 n, .slice a zs.length cap], .slice l vs.length capl] w fun e w' => ∃ va vc, e = .returned (.slice va L.length vc) ∧ Ints w' va L ∧ Below w.heap.size w w' := by
  subst hL
  refine (specMedianRule_any n a l cap capl zs vs w hi hj hn hm).mono ?_
  rintro e w' ⟨v, rfl, ow, hb⟩
  obtain ⟨va, vc, rfl, iv, _⟩ := ow.form
  exact ⟨va, vc, rfl, iv, hb⟩
theorem slatS_was (n : Int) (a l : Option Addr) (cap capl : Nat) (zs vs L : List Int) (w : World) (hi : Ints w a zs) (hj : Ints w l vs) (hn : zs.length ≤ 1048576) (hm : vs.length ≤ 1048576) (hL : bestM n zs vs = L) :
    Calls Tryz.prog 43 #[.agg #[.int .i64 n, .slice a zs.length cap], .slice l vs.length capl] w fun e w' => ∃ va vc, e = .returned (.slice va L.length vc) ∧ Ints w' va L ∧ Below w.heap.size w w' := by
  subst hL
  refine (specSlaterRule_any n a l cap capl zs vs w hi hj hn hm).mono ?_
  rintro e w' ⟨v, rfl, ow, hb⟩
  obtain ⟨va, vc, rfl, iv, _⟩ := ow.form
  exact ⟨va, vc, rfl, iv, hb⟩
theorem rankS_was (n : Int) (K : Nat) (a l : Option Addr) (cap capl : Nat) (zs vs : List Int) (w : World) (hi : Ints w a zs) (hj : Ints w l vs) (hn : zs.length ≤ 1048576) (hm : vs.length ≤ 1048576) (h0 : 0 ≤ rankV n zs vs) (hK : (rankV n zs vs).toNat = K) :
    Calls Tryz.prog 44 #[.agg #[.int .i64 n, .slice a zs.length cap], .slice l vs.length capl] w fun e w' => e = .returned (.int .i64 K) ∧ Below w.heap.size w w' := by
  have e : rankV n zs vs = (K : Int) := by omega
  rw [← e]; exact specRankedRule_any n a l cap capl zs vs w hi hj hn hm
set_option maxHeartbeats 8000000 in
set_option maxRecDepth 100000 in
theorem answer_any (s : ByteArray) (w : World) (hs : s.size ≤ 1048576) :
    Calls Tryz.prog 25 #[.string s] w fun e w' => e = .returned (.string (ansL s.data.toList)) ∧ Below w.heap.size w w' := by
  go_enter Tryz.func25, Tryz.ntmps25
  go_wp2_with fail
  refine (splitAt_was s 32 _ _ hs rfl).mono ?_
  rintro e w1 ⟨⟨v, ps, rfl, own, hps, hpl⟩, B1⟩
  have HN := hide (ansL_of hps)
  obtain ⟨g, cp, rfl, hg1, hg2, hcell⟩ := own.form (spl_pos hps)
  have hsm := pieces_small hps hs
  have h3p : ∀ x y z : ByteArray, ps = [x, y, z] → z.size + 2 ≤ 1048576 := fun x y z e => by
    subst e
    have h3 := three_pieces (p := x.data.toList) (q := y.data.toList) (r := z.data.toList) hps
    rw [Array.length_toList, Array.length_toList] at h3
    exact Nat.le_trans h3 hs
  clear own hps
  match ps, hpl, hg2, hcell, hsm, HN, h3p with
  | [], _, _, _, _, HN, _ =>
    go_wp2
    go_ret
    exact ⟨retS HN.out.symm, B1⟩
  | [a], _, _, _, _, HN, _ =>
    go_wp2
    go_ret
    exact ⟨retS HN.out.symm, B1⟩
  | a :: b :: c :: d :: r, hl, _, _, _, HN, _ =>
    obtain ⟨m, hm⟩ : ∃ m, (a :: b :: c :: d :: r).length = m := ⟨_, rfl⟩
    have h4 : 4 ≤ m := by rw [← hm]; simp
    rw [hm] at hl ⊢
    clear hm
    have n2 : ¬ (m : Int) = 2 := by omega
    have n3 : ¬ (m : Int) = 3 := by omega
    go_wp2
    go_ret
    exact ⟨retS HN.out.symm, B1⟩
  | [a, t], _, hg2, hcell, hsm, HN, _ =>
    rw [show [a, t].length = 2 from rfl]
    have c0 := hcell 0 (by simp)
    have c1 := hcell 1 (by simp)
    simp only [List.getElem_cons_zero, List.getElem_cons_succ] at c0 c1
    have htt := hsm t (by simp)
    clear hcell hsm
    go_wp2_with fail
    refine (parseSpace_any t _ htt).mono ?_
    rintro e w2 ⟨⟨n, zs, az, cz, b, rfl, OW, hpar⟩, hb2⟩
    have B2 := bnext B1 hb2
    have bw := Box.new w2 n az zs.length cz 37
    have hx2 := bel1 w2 (.cells #[.int .i64 n, .slice az zs.length cz] 37)
    have iz := OW.ints.below hx2
    have B3 := bnext B2 hx2
    have e0 := (hx2.cell (p := ⟨g, 0, none⟩) (by have := hb2.size; exact Nat.lt_of_lt_of_le hg2 this)).trans ((hb2.cell (p := ⟨g, 0, none⟩) hg2).trans c0)
    obtain ⟨_, p0, p1⟩ := bw.pair
    clear c0 c1 hb2 hx2 OW
    rcases four a ⟨#[99, 114, 105, 116, 105, 99, 97, 108]⟩ ⟨#[109, 101, 100, 105, 97, 110]⟩ ⟨#[98, 108, 111, 99, 107, 101, 100]⟩ with rfl | rfl | rfl | ⟨h1, h2, h3⟩
    · cases b with
      | true =>
        have hp : parS t.data.toList = some (n, zs) := hpar
        have HV := hide (par_valid hp)
        obtain ⟨N, rfl⟩ := Int.eq_ofNat_of_zero_le (show 0 ≤ n from by have := HV.out.1; omega)
        have hN : 1 ≤ N ∧ N ≤ 4 := by have := HV.out.1; omega
        have hz := valid_len HV.out
        have HR := hide (valid_range HV.out)
        obtain ⟨K, hK⟩ : ∃ K, (critL N zs).length = K := ⟨_, rfl⟩
        have HA : Hid (ansP [⟨#[99, 114, 105, 116, 105, 99, 97, 108]⟩, t] = numS K) := ((ansP_some hp rfl).trans (askS_crit _ _)).trans (by rw [Int.toNat_natCast, hK])
        have hk : K ≤ 81 := hK ▸ crit_81 N zs hN.2
        have HK := hide hK
        clear hp hpar hK
        go_wp2_with fail
        refine (critS_was N K _ _ _ _ iz (by omega) hN HR.out HK.out).mono ?_
        rintro e w4 ⟨va, vc, rfl, hb4⟩
        obtain ⟨S, hS⟩ : ∃ S, numS K = S := ⟨_, rfl⟩
        rw [hS] at HA
        have HS := hide hS
        clear hS
        go_wp2_with fail
        refine (number_nat K S _ (by omega) HS.out).mono ?_
        rintro e w5 ⟨rfl, rfl⟩
        go_wp2
        go_ret
        exact ⟨retS (HN.out.trans HA.out).symm, bnext B3 hb4⟩
      | false =>
        have HA : Hid (ansP [⟨#[99, 114, 105, 116, 105, 99, 97, 108]⟩, t] = wrongB) := ansP_none hpar rfl
        clear hpar
        go_wp2
        go_ret
        exact ⟨retS (HN.out.trans HA.out).symm, B3⟩
    · cases b with
      | true =>
        have hp : parS t.data.toList = some (n, zs) := hpar
        have HV := hide (par_valid hp)
        obtain ⟨N, rfl⟩ := Int.eq_ofNat_of_zero_le (show 0 ≤ n from by have := HV.out.1; omega)
        have hN : 1 ≤ N ∧ N ≤ 4 := by have := HV.out.1; omega
        have hz := valid_len HV.out
        have HR := hide (valid_range HV.out)
        obtain ⟨r, hr⟩ : ∃ r, closedB med (N : Int) zs = r := ⟨_, rfl⟩
        obtain ⟨S, hS⟩ : ∃ S, yesB r = S := ⟨_, rfl⟩
        have HA : Hid (ansP [⟨#[109, 101, 100, 105, 97, 110]⟩, t] = S) := ((ansP_some hp rfl).trans (askS_medn _ _)).trans (by rw [hr, hS])
        have HK := hide hr
        have HS := hide hS
        clear hp hpar hr hS
        go_wp2_with fail
        refine (medianS_was _ _ _ _ _ r iz (by omega) HK.out).mono ?_
        rintro e w4 ⟨rfl, hb4⟩
        go_wp2_with fail
        refine (yesNo_was r S _ HS.out).mono ?_
        rintro e w5 ⟨rfl, rfl⟩
        go_wp2
        go_ret
        exact ⟨retS (HN.out.trans HA.out).symm, bnext B3 hb4⟩
      | false =>
        have HA : Hid (ansP [⟨#[109, 101, 100, 105, 97, 110]⟩, t] = wrongB) := ansP_none hpar rfl
        clear hpar
        go_wp2
        go_ret
        exact ⟨retS (HN.out.trans HA.out).symm, B3⟩
    · cases b with
      | true =>
        have hp : parS t.data.toList = some (n, zs) := hpar
        have HV := hide (par_valid hp)
        obtain ⟨N, rfl⟩ := Int.eq_ofNat_of_zero_le (show 0 ≤ n from by have := HV.out.1; omega)
        have hN : 1 ≤ N ∧ N ≤ 4 := by have := HV.out.1; omega
        have hz := valid_len HV.out
        have HR := hide (valid_range HV.out)
        obtain ⟨r, hr⟩ : ∃ r, blkB (N : Int) zs = r := ⟨_, rfl⟩
        obtain ⟨S, hS⟩ : ∃ S, yesB r = S := ⟨_, rfl⟩
        have HA : Hid (ansP [⟨#[98, 108, 111, 99, 107, 101, 100]⟩, t] = S) := ((ansP_some hp rfl).trans (askS_blck _ _)).trans (by rw [hr, hS])
        have HK := hide hr
        have HS := hide hS
        have HVB := hide (vsB_true HV.out)
        clear hp hpar hr hS
        go_wp2_with fail
        refine (blockedS_was N _ _ _ _ r iz (by omega) HVB.out hN HK.out).mono ?_
        rintro e w4 ⟨rfl, hb4⟩
        go_wp2_with fail
        refine (yesNo_was r S _ HS.out).mono ?_
        rintro e w5 ⟨rfl, rfl⟩
        go_wp2
        go_ret
        exact ⟨retS (HN.out.trans HA.out).symm, bnext B3 hb4⟩
      | false =>
        have HA : Hid (ansP [⟨#[98, 108, 111, 99, 107, 101, 100]⟩, t] = wrongB) := ansP_none hpar rfl
        clear hpar
        go_wp2
        go_ret
        exact ⟨retS (HN.out.trans HA.out).symm, B3⟩
    · have HA : Hid (ansP [a, t] = whatB) := ansP_what (isS_no h1 h2 h3)
      have k1 := tl_ne (l := [99, 114, 105, 116, 105, 99, 97, 108]) h1
      have k2 := tl_ne (l := [109, 101, 100, 105, 97, 110]) h2
      have k3 := tl_ne (l := [98, 108, 111, 99, 107, 101, 100]) h3
      clear hpar h1 h2 h3
      go_wp2
      go_ret
      exact ⟨retS (HN.out.trans HA.out).symm, B3⟩
  | [a, t, u], _, hg2, hcell, hsm, HN, h3p =>
    rw [show [a, t, u].length = 3 from rfl]
    have c0 := hcell 0 (by simp)
    have c1 := hcell 1 (by simp)
    have c2 := hcell 2 (by simp)
    simp only [List.getElem_cons_zero, List.getElem_cons_succ] at c0 c1 c2
    have htt := hsm t (by simp)
    have huu := hsm u (by simp)
    have hu2 := h3p a t u rfl
    clear hcell hsm h3p
    go_wp2_with fail
    refine (parseSpace_any t _ htt).mono ?_
    rintro e w2 ⟨⟨n, zs, az, cz, b, rfl, OW, hpar⟩, hb2⟩
    have B2 := bnext B1 hb2
    have bw := Box.new w2 n az zs.length cz 37
    have hx2 := bel1 w2 (.cells #[.int .i64 n, .slice az zs.length cz] 37)
    have iz := OW.ints.below hx2
    have B3 := bnext B2 hx2
    have hbx := hb2.trans (hx2.mono hb2.size)
    have e0 := (hbx.cell (p := ⟨g, 0, none⟩) hg2).trans c0
    have e2 := (hbx.cell (p := ⟨g, 2, none⟩) hg2).trans c2
    have hg3 : g < (w2.alloc (.cells #[.int .i64 n, .slice az zs.length cz] 37)).heap.size := Nat.lt_of_lt_of_le hg2 hbx.size
    clear c0 c1 c2 hb2 hx2 hbx OW
    obtain ⟨vs, hvs⟩ : ∃ vs, (spl 44 u.data.toList).map rdN = vs := ⟨_, rfl⟩
    have HRL := hide (readList_any u)
    rw [hvs] at HRL
    go_wp2_with fail
    refine (HRL.out _ huu).mono ?_
    rintro e w4 ⟨⟨v4, rfl, O4⟩, hl4, hb4⟩
    obtain ⟨av, cv, rfl, iv, _⟩ := O4.form
    have f0 := (hb4.cell (p := ⟨g, 0, none⟩) hg3).trans e0
    have iz4 := iz.below hb4
    have B4 := bnext B3 hb4
    have bw4 := bw.below hb4
    obtain ⟨_, p0, p1⟩ := bw4.pair
    have hvl : vs.length ≤ 1048576 := by omega
    clear e0 e2 hb4 O4 iz bw hl4 HRL
    rcases five a ⟨#[109, 97, 106, 111, 114, 105, 116, 121]⟩ ⟨#[109, 101, 100, 105, 97, 110, 115]⟩ ⟨#[115, 108, 97, 116, 101, 114]⟩ ⟨#[114, 97, 110, 107, 101, 100]⟩ with rfl | rfl | rfl | rfl | ⟨h1, h2, h3, h4⟩
    · cases b with
      | true =>
        have HV := hide (par_valid hpar)
        obtain ⟨N, rfl⟩ := Int.eq_ofNat_of_zero_le (show 0 ≤ n from by have := HV.out.1; omega)
        have hN : 1 ≤ N ∧ N ≤ 4 := by have := HV.out.1; omega
        have hz := valid_len HV.out
        cases hvb : votesB zs vs with
        | false =>
          have HA : Hid (ansP [⟨#[109, 97, 106, 111, 114, 105, 116, 121]⟩, t, u] = wrongB) := ansP_bad3 hpar (by rw [hvs]; exact hvb) rfl
          have HVB := hide hvb
          clear hpar hvs hvb
          go_wp2_with fail
          refine (votesS_was _ _ _ _ _ _ _ _ false iz4 iv (by omega) hvl HVB.out).mono ?_
          rintro e w5 ⟨rfl, hb5⟩
          go_wp2
          go_ret
          exact ⟨retS (HN.out.trans HA.out).symm, bnext B4 hb5⟩
        | true =>
          have HS5 := hide (votes_small HV.out hvb)
          have hp3 := ansP_some3 (w := ⟨#[109, 97, 106, 111, 114, 105, 116, 121]⟩) hpar (by rw [hvs]; exact hvb) rfl
          rw [hvs] at hp3
          have HVB := hide hvb
          obtain ⟨K, hK⟩ : ∃ K, wantB vs N = K := ⟨_, rfl⟩
          obtain ⟨S, hS⟩ : ∃ S, numS K = S := ⟨_, rfl⟩
          have HA : Hid (ansP [⟨#[109, 97, 106, 111, 114, 105, 116, 121]⟩, t, u] = S) := (hp3.trans (askV_majr _ _ _)).trans (by rw [Int.toNat_natCast, hK, hS])
          have hk : K < 16 := by have := want_in vs HV.out; rw [Int.toNat_natCast, hK] at this; exact this
          have HK := hide hK
          have HS := hide hS
          clear hpar hvs hvb hp3 hK hS
          go_wp2_with fail
          refine (votesS_was _ _ _ _ _ _ _ _ true iz4 iv (by omega) hvl HVB.out).mono ?_
          rintro e w5 ⟨rfl, hb5⟩
          have f5 := (hb5.cell (p := ⟨g, 0, none⟩) (World.block_lt_of_cell? w4 ⟨g, 0, none⟩ f0)).trans f0
          have iz5 := iz4.below hb5
          have iv5 := iv.below hb5
          have B5 := bnext B4 hb5
          have bw5 := bw4.below hb5
          obtain ⟨_, q0, q1⟩ := bw5.pair
          clear hb5 bw4 f0 iz4 iv p0 p1
          go_wp2_with fail
          refine (majS_was N K _ _ _ _ _ vs _ iv5 HS5.out.1 hN.2 HS5.out.2 HK.out).mono ?_
          rintro e w6 ⟨rfl, hb6⟩
          go_wp2_with fail
          refine (number_nat K S _ (by omega) HS.out).mono ?_
          rintro e w7 ⟨rfl, rfl⟩
          go_wp2
          go_ret
          exact ⟨retS (HN.out.trans HA.out).symm, bnext B5 hb6⟩
      | false =>
        have HA : Hid (ansP [⟨#[109, 97, 106, 111, 114, 105, 116, 121]⟩, t, u] = wrongB) := ansP_none3 hpar rfl
        clear hpar
        go_wp2
        go_ret
        exact ⟨retS (HN.out.trans HA.out).symm, B4⟩
    · cases b with
      | true =>
        have HV := hide (par_valid hpar)
        obtain ⟨N, rfl⟩ := Int.eq_ofNat_of_zero_le (show 0 ≤ n from by have := HV.out.1; omega)
        have hN : 1 ≤ N ∧ N ≤ 4 := by have := HV.out.1; omega
        have hz := valid_len HV.out
        cases hvb : votesB zs vs with
        | false =>
          have HA : Hid (ansP [⟨#[109, 101, 100, 105, 97, 110, 115]⟩, t, u] = wrongB) := ansP_bad3 hpar (by rw [hvs]; exact hvb) rfl
          have HVB := hide hvb
          clear hpar hvs hvb
          go_wp2_with fail
          refine (votesS_was _ _ _ _ _ _ _ _ false iz4 iv (by omega) hvl HVB.out).mono ?_
          rintro e w5 ⟨rfl, hb5⟩
          go_wp2
          go_ret
          exact ⟨retS (HN.out.trans HA.out).symm, bnext B4 hb5⟩
        | true =>
          have HS5 := hide (votes_small HV.out hvb)
          have hp3 := ansP_some3 (w := ⟨#[109, 101, 100, 105, 97, 110, 115]⟩) hpar (by rw [hvs]; exact hvb) rfl
          rw [hvs] at hp3
          have HVB := hide hvb
          obtain ⟨L, hL⟩ : ∃ L, bestA (N : Int) zs vs = L := ⟨_, rfl⟩
          obtain ⟨S, hS⟩ : ∃ S, lstS L L.length = S := ⟨_, rfl⟩
          have HA : Hid (ansP [⟨#[109, 101, 100, 105, 97, 110, 115]⟩, t, u] = S) := (hp3.trans (askV_mdns _ _ _)).trans (by rw [hL, hS])
          have HB := hide (bestA_in (vs := vs) HV.out)
          rw [hL] at HB
          have HK := hide hL
          obtain ⟨len, hlen⟩ : ∃ len, L.length = len := ⟨_, rfl⟩
          rw [hlen] at hS
          have HS := hide hS
          have HLN := hide hlen
          clear hpar hvs hvb hp3 hL hS hlen
          go_wp2_with fail
          refine (votesS_was _ _ _ _ _ _ _ _ true iz4 iv (by omega) hvl HVB.out).mono ?_
          rintro e w5 ⟨rfl, hb5⟩
          have f5 := (hb5.cell (p := ⟨g, 0, none⟩) (World.block_lt_of_cell? w4 ⟨g, 0, none⟩ f0)).trans f0
          have iz5 := iz4.below hb5
          have iv5 := iv.below hb5
          have B5 := bnext B4 hb5
          have bw5 := bw4.below hb5
          obtain ⟨_, q0, q1⟩ := bw5.pair
          clear hb5 bw4 f0 iz4 iv p0 p1
          go_wp2_with fail
          refine (mdnsS_was _ _ _ _ _ _ _ L _ iz5 iv5 (by omega) hvl HK.out).mono ?_
          rintro e w6 ⟨va, vc, rfl, il, hb6⟩
          rw [HLN.out]
          go_wp2_with fail
          refine (listS_was L _ _ _ S _ il HB.out HLN.out HS.out).mono ?_
          rintro e w7 ⟨rfl, rfl⟩
          go_wp2
          go_ret
          exact ⟨retS (HN.out.trans HA.out).symm, bnext B5 hb6⟩
      | false =>
        have HA : Hid (ansP [⟨#[109, 101, 100, 105, 97, 110, 115]⟩, t, u] = wrongB) := ansP_none3 hpar rfl
        clear hpar
        go_wp2
        go_ret
        exact ⟨retS (HN.out.trans HA.out).symm, B4⟩
    · cases b with
      | true =>
        have HV := hide (par_valid hpar)
        obtain ⟨N, rfl⟩ := Int.eq_ofNat_of_zero_le (show 0 ≤ n from by have := HV.out.1; omega)
        have hN : 1 ≤ N ∧ N ≤ 4 := by have := HV.out.1; omega
        have hz := valid_len HV.out
        cases hvb : votesB zs vs with
        | false =>
          have HA : Hid (ansP [⟨#[115, 108, 97, 116, 101, 114]⟩, t, u] = wrongB) := ansP_bad3 hpar (by rw [hvs]; exact hvb) rfl
          have HVB := hide hvb
          clear hpar hvs hvb
          go_wp2_with fail
          refine (votesS_was _ _ _ _ _ _ _ _ false iz4 iv (by omega) hvl HVB.out).mono ?_
          rintro e w5 ⟨rfl, hb5⟩
          go_wp2
          go_ret
          exact ⟨retS (HN.out.trans HA.out).symm, bnext B4 hb5⟩
        | true =>
          have HS5 := hide (votes_small HV.out hvb)
          have hp3 := ansP_some3 (w := ⟨#[115, 108, 97, 116, 101, 114]⟩) hpar (by rw [hvs]; exact hvb) rfl
          rw [hvs] at hp3
          have HVB := hide hvb
          obtain ⟨L, hL⟩ : ∃ L, bestM (N : Int) zs vs = L := ⟨_, rfl⟩
          obtain ⟨S, hS⟩ : ∃ S, lstS L L.length = S := ⟨_, rfl⟩
          have HA : Hid (ansP [⟨#[115, 108, 97, 116, 101, 114]⟩, t, u] = S) := (hp3.trans (askV_slat _ _ _)).trans (by rw [hL, hS])
          have HB := hide (bestM_in (vs := vs) HV.out)
          rw [hL] at HB
          have HK := hide hL
          obtain ⟨len, hlen⟩ : ∃ len, L.length = len := ⟨_, rfl⟩
          rw [hlen] at hS
          have HS := hide hS
          have HLN := hide hlen
          clear hpar hvs hvb hp3 hL hS hlen
          go_wp2_with fail
          refine (votesS_was _ _ _ _ _ _ _ _ true iz4 iv (by omega) hvl HVB.out).mono ?_
          rintro e w5 ⟨rfl, hb5⟩
          have f5 := (hb5.cell (p := ⟨g, 0, none⟩) (World.block_lt_of_cell? w4 ⟨g, 0, none⟩ f0)).trans f0
          have iz5 := iz4.below hb5
          have iv5 := iv.below hb5
          have B5 := bnext B4 hb5
          have bw5 := bw4.below hb5
          obtain ⟨_, q0, q1⟩ := bw5.pair
          clear hb5 bw4 f0 iz4 iv p0 p1
          go_wp2_with fail
          refine (slatS_was _ _ _ _ _ _ _ L _ iz5 iv5 (by omega) hvl HK.out).mono ?_
          rintro e w6 ⟨va, vc, rfl, il, hb6⟩
          rw [HLN.out]
          go_wp2_with fail
          refine (listS_was L _ _ _ S _ il HB.out HLN.out HS.out).mono ?_
          rintro e w7 ⟨rfl, rfl⟩
          go_wp2
          go_ret
          exact ⟨retS (HN.out.trans HA.out).symm, bnext B5 hb6⟩
      | false =>
        have HA : Hid (ansP [⟨#[115, 108, 97, 116, 101, 114]⟩, t, u] = wrongB) := ansP_none3 hpar rfl
        clear hpar
        go_wp2
        go_ret
        exact ⟨retS (HN.out.trans HA.out).symm, B4⟩
    · cases b with
      | true =>
        have HV := hide (par_valid hpar)
        obtain ⟨N, rfl⟩ := Int.eq_ofNat_of_zero_le (show 0 ≤ n from by have := HV.out.1; omega)
        have hN : 1 ≤ N ∧ N ≤ 4 := by have := HV.out.1; omega
        have hz := valid_len HV.out
        cases hvb : votesB zs vs with
        | false =>
          have HA : Hid (ansP [⟨#[114, 97, 110, 107, 101, 100]⟩, t, u] = wrongB) := ansP_bad3 hpar (by rw [hvs]; exact hvb) rfl
          have HVB := hide hvb
          clear hpar hvs hvb
          go_wp2_with fail
          refine (votesS_was _ _ _ _ _ _ _ _ false iz4 iv (by omega) hvl HVB.out).mono ?_
          rintro e w5 ⟨rfl, hb5⟩
          go_wp2
          go_ret
          exact ⟨retS (HN.out.trans HA.out).symm, bnext B4 hb5⟩
        | true =>
          have HS5 := hide (votes_small HV.out hvb)
          have hp3 := ansP_some3 (w := ⟨#[114, 97, 110, 107, 101, 100]⟩) hpar (by rw [hvs]; exact hvb) rfl
          rw [hvs] at hp3
          have HVB := hide hvb
          obtain ⟨K, hK⟩ : ∃ K, (rankV (N : Int) zs vs).toNat = K := ⟨_, rfl⟩
          obtain ⟨S, hS⟩ : ∃ S, numS K = S := ⟨_, rfl⟩
          have HA : Hid (ansP [⟨#[114, 97, 110, 107, 101, 100]⟩, t, u] = S) := (hp3.trans (askV_rank _ _ _)).trans (by rw [hK, hS])
          have hri := rank_in HV.out hvb
          have hk : K < 100 := by omega
          have HR0 := hide hri.1
          have HK := hide hK
          have HS := hide hS
          clear hpar hvs hvb hp3 hK hS hri
          go_wp2_with fail
          refine (votesS_was _ _ _ _ _ _ _ _ true iz4 iv (by omega) hvl HVB.out).mono ?_
          rintro e w5 ⟨rfl, hb5⟩
          have f5 := (hb5.cell (p := ⟨g, 0, none⟩) (World.block_lt_of_cell? w4 ⟨g, 0, none⟩ f0)).trans f0
          have iz5 := iz4.below hb5
          have iv5 := iv.below hb5
          have B5 := bnext B4 hb5
          have bw5 := bw4.below hb5
          obtain ⟨_, q0, q1⟩ := bw5.pair
          clear hb5 bw4 f0 iz4 iv p0 p1
          go_wp2_with fail
          refine (rankS_was _ K _ _ _ _ _ _ _ iz5 iv5 (by omega) hvl HR0.out HK.out).mono ?_
          rintro e w6 ⟨rfl, hb6⟩
          go_wp2_with fail
          refine (number_nat K S _ hk HS.out).mono ?_
          rintro e w7 ⟨rfl, rfl⟩
          go_wp2
          go_ret
          exact ⟨retS (HN.out.trans HA.out).symm, bnext B5 hb6⟩
      | false =>
        have HA : Hid (ansP [⟨#[114, 97, 110, 107, 101, 100]⟩, t, u] = wrongB) := ansP_none3 hpar rfl
        clear hpar
        go_wp2
        go_ret
        exact ⟨retS (HN.out.trans HA.out).symm, B4⟩
    · have HA : Hid (ansP [a, t, u] = whatB) := ansP_what3 (isV_no h1 h2 h3 h4)
      have k1 := tl_ne (l := [109, 97, 106, 111, 114, 105, 116, 121]) h1
      have k2 := tl_ne (l := [109, 101, 100, 105, 97, 110, 115]) h2
      have k3 := tl_ne (l := [115, 108, 97, 116, 101, 114]) h3
      have k4 := tl_ne (l := [114, 97, 110, 107, 101, 100]) h4
      clear hpar h1 h2 h3 h4
      go_wp2
      go_ret
      exact ⟨retS (HN.out.trans HA.out).symm, B4⟩
end Go.Proofs.YtgebplpbnaeckaaGreatDoor

/- DskW: RunDesk of the program and of the model. -/
namespace Go.Proofs.YtgebplpbnaeckaaGreatDoor
open Go.RowKit Go.Joins

theorem yes_size (b : Bool) : (yesB b).size ≤ 100 := by cases b <;> decide
theorem ansL_size (l : List UInt8) : (ansL l).size ≤ 100 := by
  have hw1 : wrongB.size ≤ 100 := by decide
  have hw2 : whatB.size ≤ 100 := by decide
  have hnum : ∀ K : Nat, K < 100 → (numS K).size ≤ 100 := fun K h => Nat.le_trans (numS_size ⟨K, h⟩) (by omega)
  have hlst : ∀ L : List Int, (∀ x ∈ L, 0 ≤ x ∧ x < 100) ∧ L.length ≤ 16 → (lstS L L.length).size ≤ 100 := fun L h => Nat.le_trans (lstS_size h.1 L.length (Nat.le_refl _)) (by omega)
  unfold ansL
  generalize (spl 32 l).map (fun x => (⟨x.toArray⟩ : ByteArray)) = ps
  rcases ps with _ | ⟨a, _ | ⟨t, _ | ⟨u, _ | ⟨x, r⟩⟩⟩⟩
  · exact hw2
  · exact hw2
  · by_cases ha : isS a = true
    · cases hp : parS t.data.toList with
      | none => rw [ansP_none hp ha]; exact hw1
      | some p =>
        obtain ⟨n, zs⟩ := p
        rw [ansP_some hp ha]
        have hV := par_valid hp
        rcases three a ⟨#[99, 114, 105, 116, 105, 99, 97, 108]⟩ ⟨#[109, 101, 100, 105, 97, 110]⟩ ⟨#[98, 108, 111, 99, 107, 101, 100]⟩ with rfl | rfl | rfl | ⟨h1, h2, h3⟩
        · rw [askS_crit]; exact hnum _ (by have := crit_81 n.toNat zs (by have := hV.1; omega); omega)
        · rw [askS_medn]; exact yes_size _
        · rw [askS_blck]; exact yes_size _
        · rw [isS_no h1 h2 h3] at ha; cases ha
    · rw [ansP_what (by simpa using ha)]; exact hw2
  · by_cases ha : isV a = true
    · cases hp : parS t.data.toList with
      | none => rw [ansP_none3 hp ha]; exact hw1
      | some p =>
        obtain ⟨n, zs⟩ := p
        have hV := par_valid hp
        cases hv : votesB zs ((spl 44 u.data.toList).map rdN) with
        | false => rw [ansP_bad3 hp hv ha]; exact hw1
        | true =>
          rw [ansP_some3 hp hv ha]
          rcases fourW a ⟨#[109, 97, 106, 111, 114, 105, 116, 121]⟩ ⟨#[109, 101, 100, 105, 97, 110, 115]⟩ ⟨#[115, 108, 97, 116, 101, 114]⟩ ⟨#[114, 97, 110, 107, 101, 100]⟩ with rfl | rfl | rfl | rfl | ⟨h1, h2, h3, h4⟩
          · rw [askV_majr]; exact hnum _ (by have := want_in ((spl 44 u.data.toList).map rdN) hV; omega)
          · rw [askV_mdns]; exact hlst _ (bestA_in hV)
          · rw [askV_slat]; exact hlst _ (bestM_in hV)
          · rw [askV_rank]; exact hnum _ (by have := rank_in hV hv; omega)
          · rw [isV_no h1 h2 h3 h4] at ha; cases ha
    · rw [ansP_what3 (by simpa using ha)]; exact hw2
  · exact hw2
theorem dskS_size (ls : List ByteArray) : ∀ k, (dskS ls k).size ≤ 101 * k
  | 0 => Nat.le_refl _
  | k + 1 => by
    have h1 := dskS_size ls k
    have h2 := ansL_size (ls.getD k ⟨#[]⟩).data.toList
    have h3 : (⟨#[10]⟩ : ByteArray).size = 1 := rfl
    show (dskS ls k ++ ansL (ls.getD k ⟨#[]⟩).data.toList ++ ⟨#[10]⟩).size ≤ _
    rw [ByteArray.size_append, ByteArray.size_append]
    omega
/-- the cells of a slice of strings -/
def Strs (w : World) (a : Option Addr) (ls : List ByteArray) : Prop := 0 < ls.length → ∃ b off, a = some ⟨b, off, none⟩ ∧ b < w.heap.size ∧ ∀ k (hk : k < ls.length), w.cell? ⟨b, off + k, none⟩ = some (.string ls[k])
theorem Strs.below {w w' : World} {a : Option Addr} {ls : List ByteArray} (h : Strs w a ls) (hb : Below w.heap.size w w') : Strs w' a ls := fun h0 => by
  obtain ⟨b, off, e, hlt, hc⟩ := h h0
  exact ⟨b, off, e, Nat.lt_of_lt_of_le hlt hb.size, fun k hk => (hb.cell (p := ⟨b, off + k, none⟩) hlt).trans (hc k hk)⟩
theorem getD_str {ls : List ByteArray} {k : Nat} (h : k < ls.length) : ls.getD k ⟨#[]⟩ = ls[k] := by simp [List.getD, h]
theorem answer_was (s R : ByteArray) (w : World) (hs : s.size ≤ 1048576) (hR : ansL s.data.toList = R) :
    Calls Tryz.prog 25 #[.string s] w fun e w' => e = .returned (.string R) ∧ Below w.heap.size w w' := by
  subst hR; exact answer_any s w hs
set_option maxHeartbeats 2000000 in
set_option maxRecDepth 100000 in
theorem specRunDesk_any (a : Option Addr) (cap : Nat) (ls : List ByteArray) (R : ByteArray) (w : World) (hi : Strs w a ls) (hn : ls.length ≤ 20) (hs : ∀ k (hk : k < ls.length), (ls[k]).size ≤ 1048576) (hR : dskS ls ls.length = R) :
    Calls Tryz.prog 7 #[.slice a ls.length cap] w fun e w' => e = .returned (.string R) ∧ Below w.heap.size w w' := by
  have HR := hide hR
  have HS := hide hs
  have h20 : ¬ (20 : Int) < (ls.length : Int) := by omega
  clear hR hs
  go_enter Tryz.func7, Tryz.ntmps7
  go_wp2_with fail
  go_loopw [3, 4] (fun o i wr => ∃ k : Nat, k ≤ ls.length ∧ i = .int .i64 k ∧ o = .string (dskS ls k) ∧ Below w.heap.size w wr) (fun _ i _ => ls.length - (intOf i).toNat)
  case atStart => exact ⟨0, Nat.zero_le _, rfl, rfl, Below.refl _ _⟩
  case round =>
    obtain ⟨k, hk, rfl, rfl, BR⟩ := hrel
    by_cases hlt : k < ls.length
    · obtain ⟨b, off, rfl, hlb, hc⟩ := hi.below BR (by omega)
      have hck := hc k hlt
      have hsz := HS.out k hlt
      have hd1 := dskS_size ls k
      have hst : dskS ls (k + 1) = dskS ls k ++ ansL (ls[k]).data.toList ++ ⟨#[10]⟩ := by rw [← getD_str hlt]; rfl
      obtain ⟨p, hp⟩ : ∃ p, p = ls[k] := ⟨_, rfl⟩
      rw [← hp] at hck hsz hst
      obtain ⟨Q, hQ⟩ : ∃ Q, ansL p.data.toList = Q := ⟨_, rfl⟩
      have hqs : Q.size ≤ 100 := hQ ▸ ansL_size _
      rw [hQ] at hst
      have HQ := hide hQ
      have HST := hide hst
      obtain ⟨D, hD⟩ : ∃ D, dskS ls k = D := ⟨_, rfl⟩
      rw [hD] at hd1 HST ⊢
      have hf1 : ¬ 9223372036854775807 < D.size + Q.size := by omega
      have hf2 : ¬ 9223372036854775807 < (D ++ Q).size + (⟨#[10]⟩ : ByteArray).size := by
        rw [ByteArray.size_append]
        have h3 : (⟨#[10]⟩ : ByteArray).size = 1 := rfl
        omega
      clear hc hp hQ hst hD
      go_wp2_with fail
      refine (answer_was p Q _ hsz HQ.out).mono ?_
      rintro e w2 ⟨rfl, hb2⟩
      go_wp2
      go_roundw
      case rel => exact ⟨k + 1, by omega, by go_num, by rw [HST.out], bnext BR hb2⟩
      case measure => simp only [intOf]; omega
    · obtain rfl : k = ls.length := by omega
      go_wp2
      go_ret
      exact ⟨retS HR.out, BR⟩
set_option maxHeartbeats 1000000 in
theorem specRunDesk_many (a : Option Addr) (cap n : Nat) (w : World) (hn : 20 < n) :
    Calls Tryz.prog 7 #[.slice a n cap] w fun e w' => e = .returned (.string ⟨#[]⟩) ∧ Below w.heap.size w w' := by
  have h20 : (20 : Int) < (n : Int) := by omega
  go_enter Tryz.func7, Tryz.ntmps7
  go_wp2
  go_ret
  exact ⟨rfl, Below.refl _ _⟩
theorem writeStr_any (B b : Nat) (l : List UInt8) (s : ByteArray) (w : World) (h : Lib.IsBuilder 47 5 B b (Lib.byteCells l) w) (hlen : l.length + s.size ≤ 1000000) (hBw : B ≤ w.heap.size) :
    Calls Tryz.prog 22 #[.pointer (some ⟨b, 0, none⟩), .string s] w fun e w' => e = .returned (.tuple #[.int .i64 s.size, .nilIface]) ∧ Lib.IsBuilder 47 5 B b (Lib.byteCells (l ++ s.data.toList)) w' ∧ Below B w w' := by
  refine (Any.Builder_WriteString (ρ := Tryz.lays156_ren) { Tryz.lays156 with } Tryz.Builder_Extra_156 B b (Lib.byteCells l) s w h (by simp [Lib.byteCells]; omega) hBw).mono ?_
  rintro e w' ⟨rfl, hb, hbl⟩
  refine ⟨rfl, .inr ?_, hbl⟩
  have : Lib.byteCells (l ++ s.data.toList) = Lib.byteCells l ++ Lib.strCells s := by simp [Lib.byteCells, Lib.strCells]
  rw [this]
  exact hb
theorem isb_below {B b : Nat} {bs : List Value} {w w' : World} (h : Lib.IsBuilder 47 5 B b bs w) (hb : Below w.heap.size w w') : Lib.IsBuilder 47 5 B b bs w' := by
  have key : ∀ p, Lib.BuilderAt 47 5 B b p bs w → Lib.BuilderAt 47 5 B b p bs w' := fun p ⟨h1, v, h2, h3, h4⟩ =>
    ⟨h1, v, (hb.block b (lt_of_block h2)).trans h2, World.ownsRow.kept h3 (row := none) ⟨hb.os, hb.tape, hb.output, hb.size, fun k hk _ => hb.block k hk⟩ (by
      rcases hob : v.ownBlock with _ | g
      · exact .inl rfl
      · exact .inr (by intro e; cases e)), h4⟩
  exact h.elim (fun x => .inl (key _ x)) (fun x => .inr (key _ x))
set_option maxHeartbeats 2000000 in
set_option maxRecDepth 100000 in
theorem replyTo_any (s R : ByteArray) (w : World) (hs : s.size ≤ 1048576) (hd : DV w) (hR : ansL s.data.toList = R) :
    Calls Tryz.prog 23 #[.string s] w fun e w' => e = .returned (.string R) ∧ Below w.heap.size w w' := by
  have HAN := hide (answerTo_any s w hs hd)
  rw [hR] at HAN
  clear hR
  go_enter Tryz.func23, Tryz.ntmps23
  go_wp2_with fail
  refine HAN.out.mono ?_
  rintro e w1 ⟨hE, B1⟩
  have d1 := hd.below B1
  have hx := bel1 w1 (.cells #[.string ⟨#[]⟩] 64)
  have kb := heap_alloc_new w1 (.cells #[.string ⟨#[]⟩] 64)
  have B2 := bnext B1 hx
  have d2 := d1.below hx
  have c0 := cell_of_block kb 0
  have f0 := unfrozen_of_block kb 0
  clear HAN hd
  rcases hE with rfl | ⟨rfl, x, t, rfl⟩ | ⟨rfl, x, ea, rfl⟩
  · go_wp2
    go_ret
    exact ⟨rfl, B2⟩
  · go_wp2_with fail
    refine (as_hit t w1.heap.size _ _ d2.et c0 f0).mono ?_
    rintro e w3 ⟨rfl, hb3⟩
    have B3 := B1.trans ((hx.trans hb3).mono B1.size)
    clear hx kb d2 c0 f0 hb3 B2
    go_wp2
    go_ret
    exact ⟨rfl, B3⟩
  · go_wp2_with fail
    refine (as_other ea w1.heap.size _ d2.et (by simp)).mono ?_
    rintro e w3 ⟨rfl, hb3⟩
    have B3 := B1.trans ((hx.trans hb3).mono B1.size)
    clear hx kb d2 c0 f0 hb3 B2
    go_wp2
    go_ret
    exact ⟨rfl, B3⟩
theorem string_was (B b : Nat) (l : List UInt8) (R : ByteArray) (w : World) (h : Lib.IsBuilder 47 5 B b (Lib.byteCells l) w) (hBw : B ≤ w.heap.size) (hR : ⟨l.toArray⟩ = R) :
    Calls Tryz.prog 24 #[.pointer (some ⟨b, 0, none⟩)] w fun e w' => e = .returned (.string R) ∧ Below B w w' := by
  subst hR
  exact Tryz.Builder_String_any B b l w h hBw
set_option maxHeartbeats 2000000 in
set_option maxRecDepth 100000 in
theorem implRunDesk_any (a : Option Addr) (cap : Nat) (ls : List ByteArray) (R : ByteArray) (w : World) (hd : DV w) (hi : Strs w a ls) (hn : ls.length ≤ 20) (hs : ∀ k (hk : k < ls.length), (ls[k]).size ≤ 1048576) (hR : dskS ls ls.length = R) :
    Calls Tryz.prog 6 #[.slice a ls.length cap] w fun e w' => e = .returned (.string R) ∧ Below w.heap.size w w' := by
  have HR := hide hR
  have HS := hide hs
  have h20 : ¬ (20 : Int) < (ls.length : Int) := by omega
  have hx := bel1 w (.cells #[.pointer none, .slice none 0 0] 47)
  have kb := heap_alloc_new w (.cells #[.pointer none, .slice none 0 0] 47)
  have IB : Lib.IsBuilder 47 5 w.heap.size w.heap.size (Lib.byteCells []) (w.alloc (.cells #[.pointer none, .slice none 0 0] 47)) := .inl ⟨Nat.le_refl _, _, kb, World.ownsRow_nil _ _ _ _, by intro e; cases e⟩
  clear hR hs kb
  go_enter Tryz.func6, Tryz.ntmps6
  go_wp2_with fail
  go_loopw [11] (fun i wr => ∃ k : Nat, k ≤ ls.length ∧ i = .int .i64 k ∧ Lib.IsBuilder 47 5 w.heap.size w.heap.size (Lib.byteCells (dskS ls k).data.toList) wr ∧ Below w.heap.size w wr) (fun i _ => ls.length - (intOf i).toNat)
  case atStart => exact ⟨0, Nat.zero_le _, rfl, IB, hx⟩
  case round =>
    clear IB hx
    obtain ⟨k, hk, rfl, IR, BR⟩ := hrel
    have hsr := BR.size
    by_cases hlt : k < ls.length
    · obtain ⟨b, off, rfl, hlb, hc⟩ := hi.below BR (by omega)
      have hck := hc k hlt
      have hsz := HS.out k hlt
      have hd1 := dskS_size ls k
      have hst : (dskS ls (k + 1)).data.toList = ((dskS ls k).data.toList ++ (ansL (ls[k]).data.toList).data.toList) ++ [10] := by
        rw [← getD_str hlt]
        show (dskS ls k ++ ansL (ls.getD k ⟨#[]⟩).data.toList ++ ⟨#[10]⟩).data.toList = _
        simp [ByteArray.data_append]
      obtain ⟨p, hp⟩ : ∃ p, p = ls[k] := ⟨_, rfl⟩
      rw [← hp] at hck hsz hst
      obtain ⟨Q, hQ⟩ : ∃ Q, ansL p.data.toList = Q := ⟨_, rfl⟩
      have hqs : Q.size ≤ 100 := hQ ▸ ansL_size _
      rw [hQ] at hst
      have HQ := hide hQ
      have HST := hide hst
      have hdl : (dskS ls k).data.toList.length ≤ 101 * k := by rw [Array.length_toList]; exact hd1
      obtain ⟨D, hD⟩ : ∃ D, (dskS ls k).data.toList = D := ⟨_, rfl⟩
      rw [hD] at hdl HST IR
      have hql : Q.data.toList.length ≤ 100 := by rw [Array.length_toList]; exact hqs
      have hdr := hd.below BR
      have HIR := hide IR
      clear hc hp hQ hst hD hd1 IR
      go_wp2_with fail
      refine (replyTo_any p Q _ hsz hdr HQ.out).mono ?_
      rintro e w2 ⟨rfl, hb2⟩
      have I2 := isb_below HIR.out hb2
      have B2 := bnext BR hb2
      go_wp2_with fail
      refine (writeStr_any _ _ D Q _ I2 (by omega) B2.size).mono ?_
      rintro e w3 ⟨rfl, I3, hb3⟩
      have B3 := B2.trans hb3
      go_wp2_with fail
      refine (writeStr_any _ _ _ ⟨#[10]⟩ _ I3 (by rw [List.length_append]; have h1 : (⟨#[10]⟩ : ByteArray).size = 1 := rfl; omega) B3.size).mono ?_
      rintro e w4 ⟨rfl, I4, hb4⟩
      have B4 := B3.trans hb4
      have HI4 := hide I4
      clear I2 I3 I4 hb2 hb3 hb4 B2 B3
      go_wp2
      go_roundw
      case rel => exact ⟨k + 1, by omega, by go_num, by rw [HST.out]; exact HI4.out, B4⟩
      case measure => simp only [intOf]; omega
    · obtain rfl : k = ls.length := by omega
      have HRR : Hid ((⟨(dskS ls ls.length).data.toList.toArray⟩ : ByteArray) = R) := (show (⟨(dskS ls ls.length).data.toList.toArray⟩ : ByteArray) = dskS ls ls.length from rfl).trans HR.out
      go_wp2_with fail
      refine (string_was _ _ _ R _ IR hsr HRR.out).mono ?_
      rintro e w2 ⟨rfl, hb2⟩
      go_wp2
      go_ret
      exact ⟨rfl, BR.trans hb2⟩
set_option maxHeartbeats 1000000 in
theorem implRunDesk_many (a : Option Addr) (cap n : Nat) (w : World) (hn : 20 < n) :
    Calls Tryz.prog 6 #[.slice a n cap] w fun e w' => e = .returned (.string ⟨#[]⟩) ∧ Below w.heap.size w w' := by
  have h20 : (20 : Int) < (n : Int) := by omega
  go_enter Tryz.func6, Tryz.ntmps6
  go_wp2
  go_ret
  exact ⟨rfl, Below.refl _ _⟩
end Go.Proofs.YtgebplpbnaeckaaGreatDoor

/- StrH: The law's helpers on slices of strings. -/
namespace Go.Proofs.YtgebplpbnaeckaaGreatDoor
open Go.RowKit Go.Joins

set_option maxHeartbeats 2000000 in
set_option maxRecDepth 100000 in
theorem szStringS_any (a : Option Addr) (cap : Nat) (ls : List ByteArray) (w : World) (hi : Strs w a ls) (hn : ls.length ≤ maxLen) (hs : ∀ k (hk : k < ls.length), (ls[k]).size ≤ maxLen) :
    Calls Tryz.prog 9 #[.slice a ls.length cap, .int .i64 1048576] w fun e w' => (∃ r : Int, e = .returned (.int .i64 r) ∧ -1 ≤ r ∧ (0 ≤ r → ls.length ≤ 1048576 ∧ ∀ k (hk : k < ls.length), (ls[k]).size ≤ 1048576)) ∧ w' = w := by
  have hm : maxLen = 9223372036854775807 := rfl
  rw [hm] at hn
  have HS := hide hs
  clear hs
  by_cases h0 : 1048576 < ls.length
  · have h1 : (1048576 : Int) - (ls.length : Int) < 0 := by omega
    go_enter Tryz.func9, Tryz.ntmps9
    go_wp2
    go_ret
    exact ⟨⟨-1, rfl, by omega, fun h => absurd h (by omega)⟩, rfl⟩
  · have h1 : ¬ (1048576 : Int) - (ls.length : Int) < 0 := by omega
    go_enter Tryz.func9, Tryz.ntmps9
    go_wp2
    go_loop [1, 5] (fun l i => ∃ (k : Nat) (x : Int), k ≤ ls.length ∧ i = .int .i64 k ∧ l = .int .i64 x ∧ 0 ≤ x ∧ x ≤ 1048576 ∧ ∀ j (hj : j < k) (hjl : j < ls.length), (ls[j]).size ≤ 1048576) (fun _ i => ls.length - (intOf i).toNat)
    case atStart => exact ⟨0, 1048576 - ls.length, Nat.zero_le _, rfl, by go_num, by omega, by omega, fun j hj => absurd hj (by omega)⟩
    case round =>
      obtain ⟨k, x, hk, rfl, rfl, hx0, hx1, hall⟩ := hrel
      have HALL := hide hall
      clear hall
      by_cases hlt : k < ls.length
      · obtain ⟨b, off, rfl, hlb, hc⟩ := hi (by omega)
        have hck := hc k hlt
        have hsz := HS.out k hlt
        rw [hm] at hsz
        obtain ⟨p, hp⟩ : ∃ p, p = ls[k] := ⟨_, rfl⟩
        rw [← hp] at hck hsz
        have HP := hide hp
        clear hc hp
        by_cases hneg : x - (p.size : Int) < 0
        · go_wp2
          go_ret
          exact ⟨⟨-1, rfl, by omega, fun h => absurd h (by omega)⟩, rfl⟩
        · have HK : Hid (∀ j (hj : j < k + 1) (hjl : j < ls.length), (ls[j]).size ≤ 1048576) := fun j hj hjl => by
            rcases Nat.lt_or_ge j k with h | h
            · exact HALL.out j h hjl
            · have e : j = k := by omega
              subst e
              rw [← HP.out]; omega
          clear HALL
          go_wp2
          refine ⟨⟨k + 1, x - p.size, by omega, by go_num, by go_num, by omega, by omega, HK.out⟩, by simp only [intOf]; omega⟩
      · obtain rfl : k = ls.length := by omega
        go_wp2
        go_ret
        exact ⟨⟨x, rfl, by omega, fun _ => ⟨by omega, fun j hj => HALL.out j hj hj⟩⟩, rfl⟩
theorem strsTo_len (ls : List ByteArray) (k : Nat) (h : k ≤ ls.length) : (ls.take k ++ List.replicate (ls.length - k) (⟨#[]⟩ : ByteArray)).length = ls.length := by
  rw [List.length_append, List.length_take, List.length_replicate]; omega
theorem strsTo_set {ls : List ByteArray} {k : Nat} (h : k < ls.length) : (ls.take k ++ List.replicate (ls.length - k) (⟨#[]⟩ : ByteArray)).set k ls[k] = ls.take (k + 1) ++ List.replicate (ls.length - (k + 1)) ⟨#[]⟩ := by
  rw [List.set_append_right _ _ (by rw [List.length_take]; omega), List.take_succ_eq_append_getElem h, List.append_assoc]
  congr 1
  rw [List.length_take, Nat.min_eq_left (by omega), Nat.sub_self, show ls.length - k = (ls.length - (k + 1)) + 1 from by omega, List.replicate_succ]
  rfl
set_option maxHeartbeats 2000000 in
set_option maxRecDepth 100000 in
theorem toStringS_any (a : Option Addr) (cap : Nat) (ls : List ByteArray) (w : World) (hi : Strs w a ls) (hn : ls.length ≤ 1048576) :
    Calls Tryz.prog 10 #[.slice a ls.length cap] w fun e w' => (∃ a' cap', e = .returned (.slice a' ls.length cap') ∧ Strs w' a' ls) ∧ Below w.heap.size w w' := by
  obtain ⟨i0, hi0, hz0, hz1, hz2⟩ := info_parts info_string
  go_enter Tryz.func10, Tryz.ntmps10
  go_wp2_with (at_make; refine wpList_make_full _ rfl _ _ 23 rfl w.heap.size 9 i0 (.string ⟨#[]⟩) 1 Tryz.underlying23 hi0 hz0 hz1 _ _ _ _ ls.length rfl rfl (by omega) (by omega) ?b2 ?b3 (Nat.le_refl _) ?_)
  case b2 => rw [hz2]; omega
  case b3 => unfold maxLen; omega
  intro w0 hown0 hgrow0
  rw [madeStrs] at hown0
  have B0 : Below w.heap.size w w0 := (Below.refl _ _).grown hgrow0 (Nat.le_refl _) (fun k h => by cases h)
  have hs0 : w.heap.size + 1 ≤ w0.heap.size := (World.ownsRow.lt hown0 w.heap.size rfl).2
  clear hgrow0
  go_wp2
  go_loopw [4] (fun i wr => ∃ k : Nat, k ≤ ls.length ∧ i = .int .i64 k ∧ wr.ownsRow w.heap.size 9 1 (.slice (some ⟨w.heap.size, 0, none⟩) ls.length ls.length) ls.length ((ls.take k ++ List.replicate (ls.length - k) (⟨#[]⟩ : ByteArray)).map Value.string) ∧ Below w.heap.size w wr ∧ w.heap.size + 1 ≤ wr.heap.size) (fun i _ => ls.length - (intOf i).toNat)
  case atStart => exact ⟨0, Nat.zero_le _, rfl, by simpa using hown0, B0, hs0⟩
  case round =>
    clear hown0 B0 hs0
    obtain ⟨k, hk, rfl, hown, BR, hs⟩ := hrel
    by_cases hlt : k < ls.length
    · obtain ⟨b, off, rfl, hb2, hc⟩ := hi.below BR (by omega)
      have hck := hc k hlt
      have HS := hide (strsTo_set hlt)
      obtain ⟨p, hp⟩ : ∃ p, p = ls[k] := ⟨_, rfl⟩
      rw [← hp] at hck HS
      have hl := strsTo_len ls k hk
      have hst := hown.cellAt k (by omega)
      rw [List.getElem?_map, List.getElem?_eq_getElem (by rw [hl]; exact hlt)] at hst
      simp only [Option.map_some] at hst
      obtain ⟨u, hu⟩ : ∃ u, u = (ls.take k ++ List.replicate (ls.length - k) (⟨#[]⟩ : ByteArray))[k]'(by rw [hl]; exact hlt) := ⟨_, rfl⟩
      rw [← hu] at hst
      have hfz := hown.frozenAt k
      have HOW := hide hown
      clear hc hp hu hown hl
      go_wp2
      go_roundw
      case rel => exact ⟨k + 1, by omega, by go_num, by rw [← HS.out, List.map_set]; exact (HOW.out.stored k _).1, BR.setCell (p := ⟨w.heap.size, k, none⟩) (Nat.le_refl _) _, by simp; omega⟩
      case measure => simp only [intOf]; omega
    · obtain rfl : k = ls.length := by omega
      have hfin : ls.take ls.length ++ List.replicate (ls.length - ls.length) (⟨#[]⟩ : ByteArray) = ls := by simp
      rw [hfin] at hown
      have HST : Hid (Strs wr (some ⟨w.heap.size, 0, none⟩) ls) := fun h0 => ⟨w.heap.size, 0, rfl, by omega, fun j hj => by
        have := hown.cellAt j (by omega)
        rw [List.getElem?_map, List.getElem?_eq_getElem hj] at this
        simpa using this⟩
      clear hown
      go_wp2
      go_ret
      exact ⟨⟨_, _, rfl, HST.out⟩, BR⟩
set_option maxHeartbeats 2000000 in
set_option maxRecDepth 100000 in
theorem eqStringS_any (a b : Option Addr) (ca cb : Nat) (ls : List ByteArray) (w : World) (hi : Strs w a ls) (hj : Strs w b ls) (hn : ls.length ≤ 1048576) :
    Calls Tryz.prog 11 #[.slice a ls.length ca, .slice b ls.length cb] w fun e w' => e = .returned (.bool true) ∧ Below w.heap.size w w' := by
  go_enter Tryz.func11, Tryz.ntmps11
  go_wp2
  go_loopw [5] (fun i wr => ∃ k : Nat, k ≤ ls.length ∧ i = .int .i64 k ∧ Below w.heap.size w wr) (fun i _ => ls.length - (intOf i).toNat)
  case atStart => exact ⟨0, Nat.zero_le _, rfl, Below.refl _ _⟩
  case round =>
    obtain ⟨k, hk, rfl, BR⟩ := hrel
    by_cases hlt : k < ls.length
    · obtain ⟨g, off, rfl, hlb, hc⟩ := hi.below BR (by omega)
      obtain ⟨g2, off2, rfl, hlb2, hc2⟩ := hj.below BR (by omega)
      have hck := hc k hlt
      have hck2 := hc2 k hlt
      obtain ⟨p, hp⟩ : ∃ p, p = ls[k] := ⟨_, rfl⟩
      rw [← hp] at hck hck2
      clear hc hc2 hp
      go_wp2_with fail
      go_quiet (fail)
      go_wp2
      go_roundw
      case rel => exact ⟨k + 1, by omega, by go_num, bdrewN BR⟩
      case measure => simp only [intOf]; omega
    · obtain rfl : k = ls.length := by omega
      go_wp2
      go_ret
      exact ⟨rfl, BR⟩
theorem specDesk_was (a : Option Addr) (cap : Nat) (ls : List ByteArray) (R : ByteArray) (w : World) (hi : Strs w a ls) (hs : ∀ k (hk : k < ls.length), (ls[k]).size ≤ 1048576) (hR : (if ls.length ≤ 20 then dskS ls ls.length else ⟨#[]⟩) = R) :
    Calls Tryz.prog 7 #[.slice a ls.length cap] w fun e w' => e = .returned (.string R) ∧ Below w.heap.size w w' := by
  by_cases h : ls.length ≤ 20
  · rw [if_pos h] at hR
    exact specRunDesk_any a cap ls R w hi h hs hR
  · rw [if_neg h] at hR
    subst hR
    exact specRunDesk_many a cap _ w (by omega)
theorem implDesk_was (a : Option Addr) (cap : Nat) (ls : List ByteArray) (R : ByteArray) (w : World) (hd : DV w) (hi : Strs w a ls) (hs : ∀ k (hk : k < ls.length), (ls[k]).size ≤ 1048576) (hR : (if ls.length ≤ 20 then dskS ls ls.length else ⟨#[]⟩) = R) :
    Calls Tryz.prog 6 #[.slice a ls.length cap] w fun e w' => e = .returned (.string R) ∧ Below w.heap.size w w' := by
  by_cases h : ls.length ≤ 20
  · rw [if_pos h] at hR
    exact implRunDesk_any a cap ls R w hd hi h hs hR
  · rw [if_neg h] at hR
    subst hR
    exact implRunDesk_many a cap _ w (by omega)
set_option maxHeartbeats 2000000 in
set_option maxRecDepth 100000 in
theorem walk_FnExactRunDesk (a : Option Addr) (ls : List ByteArray) (cap : Nat) (w : World) (hi : Strs w a ls) (hn : ls.length ≤ maxLen) (hs : ∀ k (hk : k < ls.length), (ls[k]).size ≤ maxLen) (hd : DV w) :
    Calls Tryz.prog 4 #[.slice a ls.length cap] w fun e w' => e = .returned (.bool true) ∧ Below w.heap.size w w' := by
  obtain ⟨R, hR⟩ : ∃ R, (if ls.length ≤ 20 then dskS ls ls.length else (⟨#[]⟩ : ByteArray)) = R := ⟨_, rfl⟩
  have HR := hide hR
  clear hR
  go_enter Tryz.func4, Tryz.ntmps4
  go_wp2_with fail
  refine (szStringS_any a cap ls _ hi hn hs).mono ?_
  rintro e w1 ⟨⟨r, rfl, hr1, hr⟩, rfl⟩
  by_cases hneg : r < 0
  · go_wp2
    go_ret
    exact ⟨rfl, Below.refl _ _⟩
  · obtain ⟨hl, hsz⟩ := hr (by omega)
    clear hr hn hs
    have HSZ := hide hsz
    clear hsz
    go_wp2_with fail
    refine (toStringS_any _ _ ls _ hi hl).mono ?_
    rintro e w2 ⟨⟨a2, c2, rfl, i2⟩, B2⟩
    go_wp2_with fail
    refine (specDesk_was _ _ ls R _ i2 HSZ.out HR.out).mono ?_
    rintro e w3 ⟨rfl, hb3⟩
    have B3 := bnext B2 hb3
    clear i2
    go_wp2_with fail
    refine (toStringS_any _ _ ls _ (hi.below B3) hl).mono ?_
    rintro e w4 ⟨⟨a4, c4, rfl, i4⟩, hb4⟩
    have B4 := bnext B3 hb4
    go_wp2_with fail
    refine (implDesk_was _ _ ls R _ (hd.below B4) i4 HSZ.out HR.out).mono ?_
    rintro e w5 ⟨rfl, hb5⟩
    have B5 := bnext B4 hb5
    have i5 := i4.below hb5
    go_wp2_with fail
    refine (toStringS_any _ _ ls _ (hi.below B5) hl).mono ?_
    rintro e w6 ⟨⟨a6, c6, rfl, i6⟩, hb6⟩
    go_wp2_with fail
    refine (eqStringS_any _ _ _ _ ls _ (i5.below hb6) i6 hl).mono ?_
    rintro e w7 ⟨rfl, hb7⟩
    go_wp2
    go_ret
    exact ⟨rfl, bnext (bnext B5 hb6) hb7⟩
end Go.Proofs.YtgebplpbnaeckaaGreatDoor

/- OpS: A slice of strings that came in, opened. -/
namespace Go.Proofs.YtgebplpbnaeckaaGreatDoor
open Go.RowKit Go.Joins Go.ChangeShapes Go.WideShapes

theorem open_strs_list {H : Type} {enc : TypeId × Value → H} {P : Program} {w : World} {base : Nat} {spare : Nat → Bool} {held : Bool} {r : Reach} {b0 : Nat} {t e : TypeId} {v : Value} {d : DataW H} {p : List MemPlace} (ht : P.underlying t = some (.slice e)) (he : P.underlying e = some .string) (hc : P.cellsOf e = 1)
    (hv : Value.okWide P w r b0 t v) (h : DataW.Trod enc P w base spare held t v d p) : ∃ a ls cap, v = .slice a ls.length cap ∧ Strs w a ls ∧ ls.length ≤ maxLen ∧ ∀ k (hk : k < ls.length), (ls[k]).size ≤ maxLen := by
  obtain ⟨a0, len0, cap0, rfl⟩ := okWide_slice ht hv
  obtain ⟨fuel, hf⟩ := h
  rcases open_strings ht he hc hf with ⟨hcs, _⟩ | ⟨x, len, cap, ss, hcs, _, hl, hm, hlen, _, hcell, hsz⟩
  · simp [Value.cells] at hcs
    obtain ⟨rfl, rfl, rfl⟩ := hcs
    exact ⟨none, [], 0, rfl, fun h => absurd h (by simp), by unfold maxLen; simp, fun k hk => absurd hk (by simp)⟩
  · simp [Value.cells] at hcs
    obtain ⟨rfl, rfl, rfl⟩ := hcs
    have hsl : len0 ≤ ss.length := by rw [hlen]; split <;> omega
    have hll : (ss.take len0).length = len0 := by rw [List.length_take]; omega
    refine ⟨some x, ss.take len0, cap0, by rw [hll], fun h0 => ?_, by rw [hll]; omega, fun k hk => ?_⟩
    · rw [hll] at h0
      have hc0 := hcell 0 (by omega)
      obtain ⟨b, off, spot⟩ := x
      have hspot : spot = none := by simpa [Addr.add] using World.cell?_spot hc0
      subst hspot
      have hb : b < w.heap.size := World.block_lt_of_cell? w ⟨b, off, none⟩ (by simpa [Addr.add] using hc0)
      refine ⟨b, off, rfl, hb, fun k hk => ?_⟩
      rw [hll] at hk
      have hck := hcell k (by omega)
      have e1 : (⟨b, off, none⟩ : Addr).add k = ⟨b, off + k, none⟩ := by
        unfold Addr.add
        by_cases h : k = 0 <;> simp [h]
      rw [e1] at hck
      rw [hck, List.getElem_take]
      simp [List.getD_eq_getElem?_getD, show k < ss.length by omega]
    · rw [List.getElem_take]
      exact hsz _ (List.getElem_mem _)
end Go.Proofs.YtgebplpbnaeckaaGreatDoor
