/- The law of ApplyRule answers true at every code: safe rules, dictators; its walk. -/
import Derived.Test.YtklfpbidbiippaaAppM
import Derived.Test.YtklfpbidbiippaaDrawAR
namespace Go.Proofs.Ytklfpbidbiippaa
open Go.RowKit Go.Joins

theorem SRV.cellsA {w0 w : World} {n v : Int} {a b l : Option Addr} {zs ws vs : List Int} {cap capb : Nat} (h : SRV w0 n a zs cap v b ws capb l vs w) :
    w.cell? ⟨w0.heap.size, 0, none⟩ = some (.int .i64 n) ∧ w.cell? ⟨w0.heap.size, 1, none⟩ = some (.slice a zs.length cap) ∧ w.cell? ⟨w0.heap.size + 1, 0, none⟩ = some (.int .i64 v) ∧ w.cell? ⟨w0.heap.size + 1, 1, none⟩ = some (.slice b ws.length capb) :=
  ⟨h.1.1.2.1, h.1.1.2.2, h.1.2.1.2.1, h.1.2.1.2.2⟩
set_option maxHeartbeats 4000000 in
set_option maxRecDepth 100000 in
theorem walk_FnApplyRule (a : Option Addr) (zs : List Nat) (cap : Nat) (w : World) (hi : Byts w a zs) (hl : zs.length ≤ maxLen) (hc : zs.length ≤ cap) :
    Calls Try.prog 9 #[.slice a zs.length cap] w fun e w' => e = .returned (.bool true) ∧ Below w.heap.size w w' := by
  by_cases h : 1048576 < zs.length
  · unfold maxLen at hl
    go_enter Try.func9, Try.ntmps9
    go_wp2
    go_ret
    exact ⟨rfl, Below.refl _ _⟩
  · have hl' : zs.length ≤ 1048576 := by omega
    clear h hl
    go_enter Try.func9, Try.ntmps9
    go_wp2_with fail
    refine (drawApplyRule_any _ _ _ _ hi hl' hc).mono ?_
    rintro e w1 ⟨m, av, ss, cv, v, bv, ws, cb, la, vs, lc, rfl, iv, hsl, iw, hwl, il, hvl, hb⟩
    have S0 := SRV.new w1 m v av bv la ss ws vs cv cb 25 41 iv iw il
    have HB := hide hb
    have hn : ss.length ≤ 1048576 := by omega
    have hm : ws.length ≤ 1048576 := by omega
    have ho : vs.length ≤ 1048576 := by omega
    have hv10 : vs.length ≤ 10 := hvl
    clear hb hi iv iw il hl' hsl hwl hvl
    obtain ⟨c0, c1, d0, d1⟩ := S0.cellsA
    obtain ⟨r, hr⟩ : ∃ r, applyR m ss v ws vs = r := ⟨_, rfl⟩
    have HR := hide hr
    have hne : (r != r) = false := by simp
    have heq : (r == r) = true := by simp
    clear hr
    go_wp2_with fail
    refine (implApplyA_was _ _ _ _ _ _ _ _ _ _ _ _ _ S0.1.2.2.1 S0.1.2.2.2.1 S0.2 hn hm ho HR.out).mono ?_
    rintro e w2 ⟨rfl, b2⟩
    have S2 := S0.below b2
    clear c0 c1 d0 d1 S0 b2
    obtain ⟨c0, c1, d0, d1⟩ := S2.cellsA
    go_wp2_with fail
    refine (specApplyA_was _ _ _ _ _ _ _ _ _ _ _ _ _ S2.1.2.2.1 S2.1.2.2.2.1 S2.2 hn hm ho HR.out).mono ?_
    rintro e w3 ⟨rfl, b3⟩
    have S3 := S2.below b3
    clear c0 c1 d0 d1 S2 b3
    obtain ⟨c0, c1, d0, d1⟩ := S3.cellsA
    by_cases h0 : r < 0
    · go_wp2_with fail
      refine (specApplyA_was _ _ _ _ _ _ _ _ _ _ _ _ _ S3.1.2.2.1 S3.1.2.2.2.1 S3.2 hn hm ho HR.out).mono ?_
      rintro e w4 ⟨rfl, b4⟩
      go_wp2
      go_ret
      exact ⟨ret_bool (by simp), bnext HB.out (S3.below b4).1.2.2.2.2⟩
    · obtain ⟨d, hd⟩ : ∃ d, dictR m ss v ws = d := ⟨_, rfl⟩
      obtain ⟨sb, hsb⟩ : ∃ sb, safeR m ss v ws = sb := ⟨_, rfl⟩
      have HD := hide hd
      have HSB := hide hsb
      clear hd hsb
      go_wp2_with fail
      refine (implDictA_was _ _ _ _ _ _ _ _ _ _ S3.1.2.2.1 S3.1.2.2.2.1 hn hm HD.out).mono ?_
      rintro e w4 ⟨rfl, b4⟩
      have S4 := S3.below b4
      clear c0 c1 d0 d1 S3 b4
      obtain ⟨c0, c1, d0, d1⟩ := S4.cellsA
      go_wp2_with fail
      refine (implSafeA_was _ _ _ _ _ _ _ _ _ sb S4.1.2.2.1 S4.1.2.2.2.1 hn hm HSB.out).mono ?_
      rintro e w5 ⟨rfl, b5⟩
      have S5 := S4.below b5
      clear c0 c1 d0 d1 S4 b5
      obtain ⟨c0, c1, d0, d1⟩ := S5.cellsA
      cases sb with
      | false =>
        by_cases hd0 : d < 0
        · have hdd : decide (d < 0) = true := by simpa using hd0
          go_wp2
          go_ret
          exact ⟨rfl, bnext HB.out S5.1.2.2.2.2⟩
        · obtain ⟨i, rfl, hil, hir⟩ := app_dict HR.out (by omega) HD.out (by omega)
          obtain ⟨b, off, rfl, _, hcell⟩ := S5.2 (by omega)
          have x1 := hcell i hil
          rw [hir] at x1
          clear hcell hir
          go_wp2
          go_ret
          exact ⟨ret_bool (by simp), bnext HB.out S5.1.2.2.2.2⟩
      | true =>
        have HIN := hide (app_safe HR.out (by omega) HSB.out)
        go_wp2_with fail
        refine (implInA_was _ _ _ _ _ _ true S5.1.2.2.1 hn HIN.out).mono ?_
        rintro e w6 ⟨rfl, b6⟩
        have S6 := S5.below b6
        clear c0 c1 d0 d1 S5 b6
        by_cases hd0 : d < 0
        · have hdd : decide (d < 0) = true := by simpa using hd0
          go_wp2
          go_ret
          exact ⟨rfl, bnext HB.out S6.1.2.2.2.2⟩
        · obtain ⟨i, rfl, hil, hir⟩ := app_dict HR.out (by omega) HD.out (by omega)
          obtain ⟨b, off, rfl, _, hcell⟩ := S6.2 (by omega)
          have x1 := hcell i hil
          rw [hir] at x1
          clear hcell hir
          go_wp2
          go_ret
          exact ⟨ret_bool (by simp), bnext HB.out S6.1.2.2.2.2⟩
end Go.Proofs.Ytklfpbidbiippaa
