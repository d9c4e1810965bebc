/- The law FnExactBoughtOf answers true at every argument: its walk. -/
import Derived.Test.YthkikjidkehheaaBuyI
namespace Go.Proofs.Ythkikjidkehheaa
open Go.RowKit Go.Joins

theorem boughtAspec_was (c k : Int) (a : Option Addr) (cap : Nat) (bs : List Int) (s : List Nat × List Nat × Nat) (w : World) (hi : Ints w a bs) (hn : bs.length ≤ 1048576) (h : boughtA c bs k = s) :
    Calls Try.prog 13 #[.int .i64 c, .slice a bs.length cap, .int .i64 k] w fun e w' => LdE w w' s e := by
  subst h
  exact specBought_any c k a cap bs w hi hn
theorem boughtAimpl_was (c k : Int) (a : Option Addr) (cap : Nat) (bs : List Int) (s : List Nat × List Nat × Nat) (w : World) (hi : Ints w a bs) (hn : bs.length ≤ 1048576) (h : boughtA c bs k = s) :
    Calls Try.prog 14 #[.int .i64 c, .slice a bs.length cap, .int .i64 k] w fun e w' => LdE w w' s e := by
  subst h
  exact implBought_any c k a cap bs w hi hn
set_option maxHeartbeats 8000000 in
set_option maxRecDepth 100000 in
theorem walk_FnExactBoughtOf (c : Int) (a : Option Addr) (bs : List Int) (cap : Nat) (k : Int) (w : World) (_w1 : (Lit.int .i64 c).wf = true) (hi : Ints w a bs) (hl : bs.length ≤ maxLen) (_w3 : (Lit.int .i64 k).wf = true) :
    Calls Try.prog 4 #[.int .i64 c, .slice a bs.length cap, .int .i64 k] w fun e w' => e = .returned (.bool true) ∧ Below w.heap.size w w' := by
  by_cases h : 1048576 < bs.length
  · unfold maxLen at hl
    go_enter Try.func4, Try.ntmps4
    go_wp2_with fail
    go_ret
    exact ⟨rfl, Below.refl _ _⟩
  have hn : bs.length ≤ 1048576 := by omega
  clear h hl
  obtain ⟨l1, l2⟩ := boughtA_len c bs k
  obtain ⟨⟨ns, ls, D⟩, hs⟩ : ∃ s, boughtA c bs k = s := ⟨_, rfl⟩
  rw [hs] at l1 l2
  have HS := hide hs
  simp only at l1 l2
  obtain ⟨Z1, hZ1⟩ : ∃ Z, Z = nz ns := ⟨_, rfl⟩
  obtain ⟨Z2, hZ2⟩ : ∃ Z, Z = nz ls := ⟨_, rfl⟩
  have hL1 : Z1.length ≤ 1048576 := by rw [hZ1, nz_len]; omega
  have hL2 : Z2.length ≤ 1048576 := by rw [hZ2, nz_len]; omega
  have hM : Z1.length + Z2.length ≤ 100 := by rw [hZ1, nz_len, hZ2, nz_len]; omega
  have HZ1 := hide hZ1
  have HZ2 := hide hZ2
  have hne : ((D : Int) != (D : Int)) = false := by simp
  clear l1 l2 hs hZ1 hZ2
  go_enter Try.func4, Try.ntmps4
  go_wp2_with fail
  refine (toIntS_any _ _ _ _ hi hn).mono ?_
  rintro e w1 ⟨rfl, own1, hb1⟩
  go_wp2_with fail
  refine (boughtAspec_was _ _ _ _ _ _ _ own1.ints hn HS.out).mono ?_
  rintro e wo ⟨vw, vx, rfl, ow, owx, _, hb2⟩
  simp only at ow owx
  rw [← HZ1.out] at ow
  rw [← HZ2.out] at owx
  obtain ⟨aw, cw, rfl, iw, _⟩ := ow.form
  obtain ⟨ax, cx, rfl, ix, _⟩ := owx.form
  have B0 := bnext hb1 hb2
  have io := hi.below B0
  clear own1 hb1 hb2 ow owx
  go_wp2_with fail
  refine (toIntS_any _ _ _ _ io hn).mono ?_
  rintro e w3 ⟨rfl, ox3, hb3⟩
  go_wp2_with fail
  refine (boughtAimpl_was _ _ _ _ _ _ _ ox3.ints hn HS.out).mono ?_
  rintro e w4 ⟨vg, vf, rfl, og, of, hap, hb4⟩
  simp only at og of
  rw [← HZ1.out] at og
  rw [← HZ2.out] at of
  obtain ⟨ag, cg, rfl, ig, _⟩ := og.form
  obtain ⟨af, cf, rfl, jf, _⟩ := of.form
  have HAP := hide hap
  have B4 := bnext hb3 hb4
  have ox4 := ox3.below hb4
  have hz3 := hb3.size
  have lx3 := own_lt ox3 _ rfl
  clear ox3 hb3 hb4 hap
  go_wp2_with fail
  refine (eqIntS_yes _ _ _ _ _ _ ig (iw.below B4) hL1).mono ?_
  rintro e w5 ⟨rfl, hb5⟩
  have B5 := bnext B4 hb5
  have og5 := og.below hb5
  have of5 := of.below hb5
  have ox5 := ox4.below hb5
  clear og of ig jf ox4 B4 hb5
  go_wp2_with fail
  refine (eqIntS_yes _ _ _ _ _ _ of5.ints (ix.below B5) hL2).mono ?_
  rintro e w5' ⟨rfl, hb5'⟩
  have B5b := bnext B5 hb5'
  have og5b := og5.below hb5'
  have of5b := of5.below hb5'
  have ox5b := ox5.below hb5'
  clear og5 of5 ox5 B5 hb5'
  go_wp2_with fail
  refine (toIntS_any _ _ _ _ (io.below B5b) hn).mono ?_
  rintro e w6 ⟨rfl, own6, hb6⟩
  go_wp2_with fail
  refine (eqIntS_yes _ _ _ _ _ _ (ox5b.below hb6).ints own6.ints hn).mono ?_
  rintro e w7 ⟨rfl, hb7⟩
  have B7 := bnext (bnext B5b hb6) hb7
  have og7 := (og5b.below hb6).below hb7
  have of7 := (of5b.below hb6).below hb7
  have ox7 := (ox5b.below hb6).below hb7
  clear own6 hb6 hb7 B5b og5b of5b ox5b
  go_wp2_with fail
  refine (markIntS_any _ _ _ _ _ ox7 hn (by omega) (by omega)).mono ?_
  rintro e w8 ⟨rfl, _, hg8⟩
  have og8 := own_kept og7 hg8 (fun k hk e => by have h1 := own_ge og7 k e; simp [Value.ownBlock] at hk; omega)
  have of8 := own_kept of7 hg8 (fun k hk e => by have h1 := own_ge of7 k e; simp [Value.ownBlock] at hk; omega)
  have B8 : Below wo.heap.size wo w8 := bgrown B7 hg8 B7.size (fun k hk => by have := own_ge ox7 k hk; omega)
  clear hg8 og7 of7 ox7 B7
  go_wp2_with fail
  refine (eqIntS_yes _ _ _ _ _ _ og8.ints (iw.below B8) hL1).mono ?_
  rintro e w9 ⟨rfl, hb9⟩
  have B9 := bnext B8 hb9
  have og9 := og8.below hb9
  have of9 := of8.below hb9
  clear hb9 og8 of8 B8
  go_wp2_with fail
  refine (eqIntS_yes _ _ _ _ _ _ of9.ints (ix.below B9) hL2).mono ?_
  rintro e w9' ⟨rfl, hb9⟩
  have B9b := bnext B9 hb9
  have og9b := og9.below hb9
  have of9b := of9.below hb9
  clear hb9 og9 of9 B9
  go_wp2_with fail
  refine (markIntS_any _ _ _ _ _ og9b hL1 (by omega) (by omega)).mono ?_
  rintro e w10 ⟨rfl, og10, hg10⟩
  have of10 := own_kept of9b hg10 (fun k hk e => HAP.out k hk e)
  have B10 : Below wo.heap.size wo w10 := bgrown B9b hg10 B9b.size (fun k hk => by have := own_ge og9b k hk; omega)
  clear hg10 og9b of9b B9b
  go_wp2_with fail
  refine (markIntS_any _ _ _ _ _ of10 hL2 (by omega) (by omega)).mono ?_
  rintro e w11 ⟨rfl, of11, hg11⟩
  have og11 := own_kept og10 hg11 (fun k hk e => HAP.out k e hk)
  have B11 : Below wo.heap.size wo w11 := bgrown B10 hg11 B10.size (fun k hk => by have := own_ge of10 k hk; omega)
  clear hg11 og10 of10 B10
  go_wp2_with fail
  refine (held_yes _ _ _ _ _ og11.ints hL1 (by omega) (by omega)).mono ?_
  rintro e w12 ⟨rfl, hb12⟩
  have B12 := bnext B11 hb12
  have og12 := og11.below hb12
  have of12 := of11.below hb12
  clear hb12 og11 of11 B11
  go_wp2_with fail
  refine (held_yes _ _ _ _ _ of12.ints hL2 (by omega) (by omega)).mono ?_
  rintro e w13 ⟨rfl, hb13⟩
  have B13 := bnext B12 hb13
  have og13 := og12.below hb13
  have of13 := of12.below hb13
  clear hb13 og12 of12 B12
  go_wp2_with fail
  refine (toIntS_any _ _ _ _ (io.below B13) hn).mono ?_
  rintro e w14 ⟨rfl, own14, hb14⟩
  go_wp2_with fail
  refine (boughtAimpl_was _ _ _ _ _ _ _ own14.ints hn HS.out).mono ?_
  rintro e w15 ⟨vh, vi, rfl, oh, oj, _, hb15⟩
  simp only at oh oj
  rw [← HZ1.out] at oh
  rw [← HZ2.out] at oj
  obtain ⟨ah, ch, rfl, ih, _⟩ := oh.form
  obtain ⟨aj, cj, rfl, ij, _⟩ := oj.form
  have B15 := bnext (bnext B13 hb14) hb15
  have og15 := (og13.below hb14).below hb15
  have of15 := (of13.below hb14).below hb15
  clear own14 hb14 hb15 oh B13 og13 of13
  go_wp2_with fail
  refine (eqIntS_yes _ _ _ _ _ _ ih (iw.below B15) hL1).mono ?_
  rintro e w16 ⟨rfl, hb16⟩
  have B16 := bnext B15 hb16
  have og16 := og15.below hb16
  have of16 := of15.below hb16
  have ij16 := ij.below hb16
  clear B15 og15 of15 hb16 ih ij
  go_wp2_with fail
  refine (eqIntS_yes _ _ _ _ _ _ ij16 (ix.below B16) hL2).mono ?_
  rintro e w17 ⟨rfl, hb17⟩
  have B17 := bnext B16 hb17
  have og17 := og16.below hb17
  have of17 := of16.below hb17
  clear B16 og16 of16 hb17 ij16
  go_wp2_with fail
  refine (held_yes _ _ _ _ _ og17.ints hL1 (by omega) (by omega)).mono ?_
  rintro e w18 ⟨rfl, hb18⟩
  have B18 := bnext B17 hb18
  have of18 := of17.below hb18
  clear hb18 B17 of17
  go_wp2_with fail
  refine (held_yes _ _ _ _ _ of18.ints hL2 (by omega) (by omega)).mono ?_
  rintro e w19 ⟨rfl, hb19⟩
  go_wp2
  go_ret
  exact ⟨rfl, bnext B0 (bnext B18 hb19)⟩
end Go.Proofs.Ythkikjidkehheaa
