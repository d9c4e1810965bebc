/- The law of ValidSpace answers true at every code; its walk. -/
import Derived.Test.YtbnnblfgpdfmpaaFlpI
import Derived.Test.YtbnnblfgpdfmpaaDrawC
import Derived.Deep.RegionHeld3
namespace Go.Proofs.Ytbnnblfgpdfmpaa
open Go.RowKit Go.Joins

theorem specVSp_was (n : Int) (a : Option Addr) (cap : Nat) (zs : List Int) (r : Bool) (w : World) (hi : Ints w a zs) (hn : zs.length ≤ 1048576) (h : vsB n zs = r) :
    Calls Try.prog 31 #[.agg #[.int .i64 n, .slice a zs.length cap]] w fun e w' => e = .returned (.bool r) ∧ Below w.heap.size w w' := by
  subst h
  exact specValidSpace_any n a cap zs w hi hn
theorem inSp_was (n x : Int) (a : Option Addr) (cap : Nat) (zs : List Int) (w : World) (r : Bool) (hi : Ints w a zs) (hn : zs.length ≤ 1048576) (hr : inB n zs x = r) :
    Calls Try.prog 32 #[.agg #[.int .i64 n, .slice a zs.length cap], .int .i64 x] w fun e w' => e = .returned (.bool r) ∧ Below w.heap.size w w' := by
  subst hr
  exact implInSpace_any n x a cap zs w hi hn
theorem implFlip_was (n j : Int) (a : Option Addr) (cap : Nat) (zs : List Int) (N : Int) (L : List Int) (B : Bool) (w : World) (hi : Ints w a zs) (hn : zs.length ≤ 1048576) (h1 : fpN n zs j = N) (h2 : fpL n zs j = L) (h3 : hiB n zs j = B) :
    Calls Try.prog 14 #[.agg #[.int .i64 n, .slice a zs.length cap], .int .i64 j] w (GivesX N L B w) := by
  subst h1 h2 h3
  exact implFlipIssue_any n j a cap zs w hi hn
set_option maxHeartbeats 4000000 in
set_option maxRecDepth 100000 in
theorem walk_FnValidSpace (a : Option Addr) (zs : List Nat) (cap : Nat) (w : World) (hi : Byts w a zs) (hl : zs.length ≤ maxLen) (hc : zs.length ≤ cap) :
    Calls Try.prog 8 #[.slice a zs.length cap] w fun e w' => e = .returned (.bool true) ∧ Below w.heap.size w w' := by
  by_cases h : 1048576 < zs.length
  · unfold maxLen at hl
    go_enter Try.func8, Try.ntmps8
    go_wp2
    go_ret
    exact ⟨rfl, Below.refl _ _⟩
  · have hl' : zs.length ≤ 1048576 := by omega
    clear h hl
    go_enter Try.func8, Try.ntmps8
    go_wp2_with fail
    refine (drawValidSpace_any _ _ _ _ hi hl' hc).mono ?_
    rintro e w1 ⟨m, av, ss, cv, rfl, iv, hsl, hcv, hb⟩
    have S0 := SV.new w1 m av ss cv none [] 26 iv (Ints.nil _ _)
    have HB := hide hb
    have hn : ss.length ≤ 1048576 := by omega
    clear hb hi iv hl' hcv
    obtain ⟨⟨_, c0, c1⟩, _⟩ := S0.pair
    obtain ⟨r, hr⟩ : ∃ r, vsB m ss = r := ⟨_, rfl⟩
    have HR := hide hr
    have hne : (r != r) = false := by simp
    have heq : (r == r) = true := by simp
    clear hr
    go_wp2_with fail
    refine (implVSf_was _ _ _ _ r _ S0.2.1 hn HR.out).mono ?_
    rintro e w2 ⟨rfl, b2⟩
    have S2 := S0.below b2
    clear c0 c1 S0 b2
    obtain ⟨⟨_, c0, c1⟩, _⟩ := S2.pair
    go_wp2_with fail
    refine (specVSp_was _ _ _ _ r _ S2.2.1 hn HR.out).mono ?_
    rintro e w3 ⟨rfl, b3⟩
    have S3 := S2.below b3
    clear c0 c1 S2 b3
    obtain ⟨⟨_, c0, c1⟩, _⟩ := S3.pair
    cases r with
    | false =>
      go_wp2_with fail
      refine (specVSp_was _ _ _ _ false _ S3.2.1 hn HR.out).mono ?_
      rintro e w4 ⟨rfl, b4⟩
      have S4 := S3.below b4
      go_wp2
      go_ret
      exact ⟨rfl, bnext HB.out S4.2.2.2⟩
    | true =>
      have hV := valid_of HR.out
      have hz0 := hV.2.1
      have hn4 := hV.1
      have HIN : Hid (∀ k (hk : k < ss.length), inB m ss (ss.getD k 0) = true) := fun k hk => by
        rw [inB_true HR.out, getD_lt hk]
        unfold hasB
        rw [decide_eq_true_iff]
        exact List.getElem_mem hk
      have HF : Hid (hiB m ss 0 = true) := hiB_iff.2 ⟨HR.out, by omega, by omega⟩
      have HS3 := hide S3
      clear hV hn4
      go_wp2_with fail
      go_loopw [5] (fun i wq => ∃ k : Nat, k ≤ ss.length ∧ i = .int .i64 k ∧ SV w1 m av ss cv none [] wq) (fun i _ => ss.length - (intOf i).toNat)
      case atStart => exact ⟨0, Nat.zero_le _, rfl, HS3.out⟩
      case round =>
        obtain ⟨k, hk, rfl, SR⟩ := hrel
        have HSR := hide SR
        obtain ⟨⟨_, c0, c1⟩, _⟩ := SR.pair
        clear HS3
        by_cases hlt : k < ss.length
        · obtain ⟨bz, oz, rfl, hbz, hcz⟩ := SR.2.1 (by omega)
          have hck := hcz k hlt
          have hin := HIN.out k hlt
          obtain ⟨z, hz⟩ : ∃ z, z = ss.getD k 0 := ⟨_, rfl⟩
          rw [← hz] at hck hin
          have HZ := hide hin
          have SD := hide HSR.out.drew
          have id0 := SD.out.2.1
          clear hcz hz hin SR
          go_wp2
          go_region_held3 (fun W => W.cell? ⟨w1.heap.size, 0, none⟩ = some (.int .i64 m) ∧ W.cell? ⟨w1.heap.size, 1, none⟩ = some (.slice (some ⟨bz, oz, none⟩) ss.length cv) ∧ W.cell? ⟨bz, oz + k, none⟩ = some (.int .i64 z)) (first | exact ⟨c0, c1, hck⟩ | exact K1.out) ((go_at_call 32; (with_reducible refine (inSp_was _ _ _ _ _ _ true id0 hn HZ.out).mono ?_); rintro e w5 ⟨rfl, b5⟩; have S5 := hide (SD.out.below b5); have K1 : Hid (w5.cell? ⟨w1.heap.size, 0, none⟩ = some (.int .i64 m) ∧ w5.cell? ⟨w1.heap.size, 1, none⟩ = some (.slice (some ⟨bz, oz, none⟩) ss.length cv) ∧ w5.cell? ⟨bz, oz + k, none⟩ = some (.int .i64 z)) := ⟨S5.out.1.2.1, S5.out.1.2.2, (b5.cell (p := ⟨bz, oz + k, none⟩) hbz).trans hck⟩; clear b5))
          all_goals
            go_wp2
            go_roundw
            case rel => exact ⟨k + 1, by omega, by go_num, S5.out⟩
            case measure => simp only [intOf]; omega
        · obtain rfl : k = ss.length := by omega
          clear SR
          go_wp2_with fail
          refine (implFlip_was _ _ _ _ _ _ _ true _ HSR.out.2.1 hn rfl rfl HF.out).mono ?_
          rintro e w4 ⟨vg, rfl, og, hbg⟩
          obtain ⟨ag, cg, rfl, ig0, _⟩ := og.form
          have hbx := bnext (HSR.out.below hbg).2.2.2 (bel1 _ (.cells #[.int .i64 (fpN m ss 0), .slice ag (fpL m ss 0).length cg] 26))
          have HBX := hide hbx
          clear og hbg ig0 hbx c0 c1
          go_wp2
          go_ret
          exact ⟨rfl, bnext HB.out HBX.out⟩
end Go.Proofs.Ytbnnblfgpdfmpaa
