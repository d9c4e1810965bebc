/- The promise of ValidVotes: votes can be cut. -/
import Derived.Test.YtklfpbidbiippaaDrawT
import Derived.Test.YtklfpbidbiippaaLawH
import Derived.Test.YtklfpbidbiippaaVotes
import Derived.Test.YtklfpbidbiippaaHas
import Derived.Deep.RegionHeld3
import Derived.Deep.QuietTactic
import Derived.BigQuiet
namespace Go.Proofs.Ytklfpbidbiippaa
open Go.RowKit Go.Joins

theorem Ints.take {w : World} {a : Option Addr} {zs : List Int} (h : Ints w a zs) (n : Nat) : Ints w a (zs.take n) := fun hz => by
  have hl : (zs.take n).length ≤ zs.length := List.length_take_le' _ _
  obtain ⟨b, off, e, hb, hc⟩ := h (by omega)
  refine ⟨b, off, e, hb, fun k hk => ?_⟩
  rw [hc k (by omega), getD_lt hk, List.getElem_take, getD_lt]
theorem votes_cut {n : Int} {zs vs : List Int} (h : vvB n zs vs = true) (N : Nat) (hN : vs.length = N + 1) (h1 : 1 ≤ N) : vvB n zs (vs.take N) = true := by
  obtain ⟨hV, hO⟩ := vv_of h
  rw [vvB_yes (vsB_true hV)]
  have hl : (vs.take N).length = N := by simp; omega
  refine votesB_true ⟨fun j hj => ?_, by have := hO.2; omega⟩
  have hj' : j < vs.length := by omega
  have := hO.1 j hj'
  rw [getD_lt hj, List.getElem_take]
  rwa [getD_lt hj'] at this
theorem votes_last {n : Int} {zs vs : List Int} (h : vvB n zs vs = true) (N : Nat) (hN : vs.length = N + 1) : inB n zs (vs.getD N 0) = true := by
  obtain ⟨hV, hO⟩ := vv_of h
  rw [inB_true (vsB_true hV)]
  exact hasB_true (hO.1 N (by omega))
theorem votes_is (n : Int) (a l : Option Addr) (cap capl N : Nat) (zs vs : List Int) (w : World) (r : Bool) (hi : Ints w a zs) (hj : Ints w l vs) (hn : zs.length ≤ 1048576) (hm : vs.length ≤ 1048576) (hN : vs.length = N) (hr : vvB n zs vs = r) :
    Calls Try.prog 16 #[.agg #[.int .i64 n, .slice a zs.length cap], .slice l N capl] w fun e w' => e = .returned (.bool r) ∧ Below w.heap.size w w' := by
  subst hr
  subst hN
  exact implValidVotes_any n a l cap capl zs vs w hi hj hn hm
theorem inS_is (n x : Int) (a : Option Addr) (cap : Nat) (zs : List Int) (w : World) (r : Bool) (hi : Ints w a zs) (hn : zs.length ≤ 1048576) (hr : inB n zs x = r) :
    Calls Try.prog 18 #[.agg #[.int .i64 n, .slice a zs.length cap], .int .i64 x] w fun e w' => e = .returned (.bool r) ∧ Below w.heap.size w w' := by
  subst hr
  exact implInSpace_any n x a cap zs w hi hn
/-- What a draw of a space and votes out of a code leaves, and how long the votes' row is. -/
def DrawSVLPost (w : World) (e : Ending) (w' : World) : Prop :=
  ∃ (m : Int) (a : Option Addr) (zs : List Int) (cap : Nat) (l : Option Addr) (ls : List Int) (capl : Nat), e = .returned (.tuple #[.agg #[.int .i64 m, .slice a zs.length cap], .slice l ls.length capl]) ∧ Ints w' a zs ∧ zs.length ≤ 65 ∧ Ints w' l ls ∧ (ls.length ≤ 10 ∧ ls.length ≤ capl) ∧ Below w.heap.size w w'
set_option maxHeartbeats 4000000 in
set_option maxRecDepth 100000 in
theorem drawVVL_any (a : Option Addr) (cap : Nat) (zs : List Nat) (w : World) (hi : Byts w a zs) (hl : zs.length ≤ 1048576) (hc : zs.length ≤ cap) :
    Calls Try.prog 15 #[.slice a zs.length cap] w (DrawSVLPost w) := by
  have h0 := heap_alloc_new w (.cells #[.int .i64 0, .slice none 0 0] 25)
  have b0 := bel1 w (.cells #[.int .i64 0, .slice none 0 0] 25)
  have hi0 := hi.below b0
  have H0 := hide h0
  have HB0 := hide b0
  clear hi h0 b0
  go_enter Try.func15, Try.ntmps15
  go_wp2_with fail
  refine (newReader_any _ _ _ _ hi0 hl hc).mono ?_
  rintro e w1 ⟨R, rfl, hR, rd, B⟩
  have s1 := hide ((B.block w.heap.size (by simp)).trans H0.out)
  have B1 := hide (bnext HB0.out B)
  have hR' : w.heap.size + 1 ≤ R := by simpa using hR
  have HR := hide hR'
  have hlt := rd.lt
  clear hR hR' B hi0
  go_wp2_with fail
  refine (someVotes_any R 0 _ rd (by omega)).mono ?_
  rintro e w2 ⟨m, v, ss, u, ls, rfl, own, hsl, owu, hll, g, rd2⟩
  obtain ⟨av, cv, rfl, _, _⟩ := own.form
  obtain ⟨au, cu, rfl, _, _⟩ := owu.form
  have hcap := hide owu.cap
  have hRs := HR.out
  have s2 := hide ((g.block w.heap.size (lt_of_block s1.out) (by first | (simp; done) | (simp; omega))).trans s1.out)
  have q0 := cell_of_block s2.out 0
  have q1 := cell_of_block s2.out 1
  have k0 := unfrozen_of_block s2.out 0
  have k1 := unfrozen_of_block s2.out 1
  have B2 := hide (bgrown B1.out g B1.out.size (fun k hk => by cases hk; omega))
  have hO := hide ((own.set2 (g := w.heap.size) (by omega) (.int .i64 m) (.slice av ss.length cv)).ints)
  have hU := hide ((owu.set2 (g := w.heap.size) (by omega) (.int .i64 m) (.slice av ss.length cv)).ints)
  clear s1 B1 rd rd2 g own owu H0 HB0
  go_wp2_with fail
  refine bodyPost_ret (ret_cross rfl _ _ _ _ _ rfl (block_setCell (i := 1) (block_setCell (i := 0) s2.out _) _)) rfl ?_
  exact ⟨m, av, ss, cv, au, ls, cu, rfl, hO.out, hsl.1, hU.out, ⟨hll, hcap.out⟩, (B2.out.setCell (p := ⟨w.heap.size, 0, none⟩) (Nat.le_refl _) _).setCell (p := ⟨w.heap.size, 1, none⟩) (Nat.le_refl _) _⟩
set_option maxHeartbeats 2000000 in
set_option maxRecDepth 100000 in
theorem walk_FnValidVotes (a : Option Addr) (zs : List Nat) (cap : Nat) (w : World) (hi : Byts w a zs) (hl : zs.length ≤ maxLen) (hc : zs.length ≤ cap) :
    Calls Try.prog 3 #[.slice a zs.length cap] w fun e w' => e = .returned (.bool true) ∧ Below w.heap.size w w' := by
  by_cases h : 1048576 < zs.length
  · unfold maxLen at hl
    go_enter Try.func3, Try.ntmps3
    go_wp2
    go_ret
    exact ⟨rfl, Below.refl _ _⟩
  · have hl' : zs.length ≤ 1048576 := by omega
    clear h hl
    go_enter Try.func3, Try.ntmps3
    go_wp2_with fail
    refine (drawVVL_any _ _ _ _ hi hl' hc).mono ?_
    rintro e w1 ⟨m, av, ss, cv, al, ls, cl, rfl, ii, hsl, il, ⟨hll, hcap⟩, hb⟩
    have S0 := SV.new w1 m av ss cv al ls 25 ii il
    have HB := hide hb
    have hn : ss.length ≤ 1048576 := by omega
    have hm : ls.length ≤ 1048576 := by omega
    clear hb hi ii il hl' hsl
    obtain ⟨⟨_, c0, c1⟩, _⟩ := S0.pair
    obtain ⟨r, hr⟩ : ∃ r, vvB m ss ls = r := ⟨_, rfl⟩
    have HR := hide hr
    clear hr
    go_wp2_with fail
    refine (votes_is _ _ _ _ _ _ _ _ _ r S0.2.1 S0.2.2.1 hn hm rfl HR.out).mono ?_
    rintro e w2 ⟨rfl, b2⟩
    have S2 := S0.below b2
    clear c0 c1 S0 b2
    obtain ⟨⟨_, c0, c1⟩, _⟩ := S2.pair
    go_wp2_with fail
    refine (specValidVotes_any _ _ _ _ _ _ _ _ S2.2.1 S2.2.2.1 hn hm).mono ?_
    rintro e w3 ⟨rfl, b3⟩
    rw [HR.out]
    have S3 := S2.below b3
    clear c0 c1 S2 b3
    obtain ⟨⟨_, c0, c1⟩, _⟩ := S3.pair
    cases r with
    | false =>
      go_wp2_with fail
      refine (specValidVotes_any _ _ _ _ _ _ _ _ S3.2.1 S3.2.2.1 hn hm).mono ?_
      rintro e w4 ⟨rfl, b4⟩
      rw [HR.out]
      have S4 := S3.below b4
      go_wp2
      go_ret
      exact ⟨rfl, bnext HB.out S4.2.2.2⟩
    | true =>
      obtain ⟨N, hN⟩ : ∃ N, ls.length = N + 1 := ⟨ls.length - 1, by have := (vv_of HR.out).2.2; omega⟩
      have HLAST := hide (votes_last HR.out N hN)
      have HCUT := hide (fun h1 => votes_cut HR.out N hN h1)
      have HTL := hide (show (ls.take N).length = N by simp; omega)
      have HNN := hide hN
      have il3 := S3.2.2.1
      have S3' := hide S3
      obtain ⟨K, hK⟩ : ∃ K, K = ls.length := ⟨_, rfl⟩
      rw [← hK] at hcap hll hN ⊢
      by_cases h1 : N = 0
      · have hone : ((K : Int) == 1) = true := by rw [beq_iff_eq]; omega
        have hone2 : (K : Int) = 1 := by omega
        clear il3 hN h1 hK
        go_wp2
        go_quiet (fail)
        go_wp2
        go_ret
        exact ⟨rfl, bnext HB.out (S3'.out.2.2.2.trans ((belN _ _).mono S3'.out.2.2.2.size))⟩
      · have hone2 : ¬ (K : Int) = 1 := by omega
        have hone : ((K : Int) == 1) = false := by rw [beq_eq_false_iff_ne]; exact hone2
        have hw2 : (K : Int) - 1 = (N : Int) := by omega
        have hNK : N < K := by omega
        have h0N : (0 : Int) ≤ (N : Int) := by omega
        have hNI : (N : Int) < (K : Int) := by omega
        have hwN : IntKind.i64.wrap (N : Int) = (N : Int) := IntWalk.i64_in _ (by omega)
        have hcI : (N : Int) ≤ (cl : Int) := by omega
        obtain ⟨bl, ol, rfl, hbl, hcl⟩ := il3 (by omega)
        have hck := hcl N (by omega)
        obtain ⟨z, hz⟩ : ∃ z, z = ls.getD N 0 := ⟨_, rfl⟩
        rw [← hz] at hck HLAST
        have hct := hide (HCUT.out (by omega))
        clear hcl hz il3 hN hK h1
        have SD := hide S3'.out.drew
        have id0 := SD.out.2.1
        have jd0 := SD.out.2.2.1.take N
        go_wp2
        go_region_held3 (fun W => W.cell? ⟨w1.heap.size, 0, none⟩ = some (.int .i64 m) ∧ W.cell? ⟨w1.heap.size, 1, none⟩ = some (.slice av ss.length cv) ∧ W.cell? ⟨bl, ol + N, none⟩ = some (.int .i64 z)) (first | exact ⟨c0, c1, hck⟩ | exact K1.out | exact K2.out) (first
          | (go_at_call 16; (with_reducible refine (votes_is _ _ _ _ _ N _ (ls.take N) _ true id0 jd0 hn (by rw [HTL.out]; omega) HTL.out hct.out).mono ?_); rintro e w5 ⟨rfl, b5⟩; have S5 := hide (SD.out.below b5); have i5 := S5.out.2.1; have hbl5 : bl < w5.heap.size := Nat.lt_of_lt_of_le hbl b5.size; have K1 : Hid (w5.cell? ⟨w1.heap.size, 0, none⟩ = some (.int .i64 m) ∧ w5.cell? ⟨w1.heap.size, 1, none⟩ = some (.slice av ss.length cv) ∧ w5.cell? ⟨bl, ol + N, none⟩ = some (.int .i64 z)) := ⟨S5.out.1.2.1, S5.out.1.2.2, (b5.cell (p := ⟨bl, ol + N, none⟩) hbl).trans hck⟩; clear b5)
          | (go_at_call 18; (with_reducible refine (inS_is _ _ _ _ _ _ true i5 hn HLAST.out).mono ?_); rintro e w6 ⟨rfl, b6⟩; have S6 := hide (S5.out.below b6); have K2 : Hid (w6.cell? ⟨w1.heap.size, 0, none⟩ = some (.int .i64 m) ∧ w6.cell? ⟨w1.heap.size, 1, none⟩ = some (.slice av ss.length cv) ∧ w6.cell? ⟨bl, ol + N, none⟩ = some (.int .i64 z)) := ⟨S6.out.1.2.1, S6.out.1.2.2, (b6.cell (p := ⟨bl, ol + N, none⟩) hbl5).trans K1.out.2.2⟩; clear b6))
        all_goals
          go_wp2
          go_ret
          exact ⟨rfl, bnext HB.out S6.out.2.2.2⟩
end Go.Proofs.Ytklfpbidbiippaa
