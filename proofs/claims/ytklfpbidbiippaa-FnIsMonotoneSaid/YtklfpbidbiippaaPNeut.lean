/- The law of IsNeutral answers true at every code: dictators, neutral, monotone and unanimous rules; its walk. -/
import Derived.Test.YtklfpbidbiippaaDrawR3
import Derived.Test.YtklfpbidbiippaaTabX
import Derived.Test.YtklfpbidbiippaaLawH
import Derived.Deep.RegionWith
namespace Go.Proofs.Ytklfpbidbiippaa
open Go.RowKit Go.Joins

set_option maxRecDepth 100000 in
theorem neut_unan0 : ∀ v : Fin 3, ∀ x : Fin 256, (holdOwn ((v.val : Nat) + 1 : Int) ((x.val : Nat) : Int) && holdMono ((v.val : Nat) + 1 : Int) ((x.val : Nat) : Int)) = true → holdUnan ((v.val : Nat) + 1 : Int) ((x.val : Nat) : Int) = true := by decide +kernel
set_option maxRecDepth 100000 in
theorem dict_own0 : ∀ v : Fin 3, ∀ i : Fin 3, ∀ x : Fin 256, i.val ≤ v.val → holdDict ((v.val : Nat) + 1 : Int) (upT ((v.val : Nat) + 1 : Int) (memF ((i.val : Nat) : Int))) ((x.val : Nat) : Int) = true → holdOwn ((v.val : Nat) + 1 : Int) ((x.val : Nat) : Int) = true := by decide +kernel
theorem neut_unan {v x : Int} (hv : 1 ≤ v ∧ v ≤ 3) (hx : 0 ≤ x ∧ x ≤ 255) (h1 : holdOwn v x = true) (h2 : holdMono v x = true) : holdUnan v x = true := by
  have h := neut_unan0 ⟨(v - 1).toNat, by omega⟩ ⟨x.toNat, by omega⟩
  have e1 : (((v - 1).toNat : Nat) : Int) + 1 = v := by omega
  have e2 : ((x.toNat : Nat) : Int) = x := by omega
  dsimp only at h
  rw [e1, e2] at h
  exact h (by rw [h1, h2]; rfl)
theorem dict_own {v x : Int} {i : Nat} (hv : 1 ≤ v ∧ v ≤ 3) (hx : 0 ≤ x ∧ x ≤ 255) (hi : (i : Int) < v) (h1 : holdDict v (upT v (memF i)) x = true) : holdOwn v x = true := by
  have h := dict_own0 ⟨(v - 1).toNat, by omega⟩ ⟨i, by omega⟩ ⟨x.toNat, by omega⟩
  have e1 : (((v - 1).toNat : Nat) : Int) + 1 = v := by omega
  have e2 : ((x.toNat : Nat) : Int) = x := by omega
  dsimp only at h
  rw [e1, e2] at h
  exact h (by omega) h1
theorem any_hold {p : Int → Bool} {ws : List Int} : (!ws.any fun x => !p x) = true ↔ ∀ x ∈ ws, p x = true := by
  rw [Bool.not_eq_true', List.any_eq_false]
  constructor
  · intro h x hx
    simpa using h x hx
  · intro h x hx
    simp [h x hx]
theorem firstI_in {v : Int} {P : Nat → Bool} (h : ¬ firstI v P < 0) : ∃ i : Nat, (i : Int) < v ∧ P i = true := by
  unfold firstI at h
  split at h
  · rename_i h0; exact ⟨0, by omega, h0.2⟩
  · split at h
    · rename_i h0; exact ⟨1, by omega, h0.2⟩
    · split at h
      · rename_i h0; exact ⟨2, by omega, h0.2⟩
      · omega
theorem neut_dict {n v : Int} {zs ws : List Int} (hv : vrB n zs v ws = true) (h : neutR n zs v ws = false) : dictR n zs v ws < 0 := by
  have hr := (vr_of hv).2
  by_cases hd : dictR n zs v ws < 0
  · exact hd
  · exfalso
    unfold dictR at hd
    rw [if_pos hv] at hd
    obtain ⟨i, hi, hP⟩ := firstI_in hd
    have hall := any_hold.1 hP
    have : neutR n zs v ws = true := by
      rw [neutR_yes hv]
      exact any_hold.2 fun x hx => dict_own hr.1 (hr.range x hx) hi (hall x hx)
    rw [h] at this
    cases this
theorem neut_mono {n v : Int} {zs ws : List Int} (hv : vrB n zs v ws = true) (h1 : neutR n zs v ws = true) (h2 : monoR n zs v ws = true) : unanR n zs v ws = true := by
  have hr := (vr_of hv).2
  rw [neutR_yes hv] at h1
  rw [monoR_yes hv] at h2
  rw [unanR_yes hv]
  exact any_hold.2 fun x hx => neut_unan hr.1 (hr.range x hx) (any_hold.1 h1 x hx) (any_hold.1 h2 x hx)
theorem SR.cells5 {w0 w : World} {n v : Int} {a b : Option Addr} {zs ws : List Int} {cap capb : Nat} (h : SR w0 n a zs cap v b ws capb w) :
    w.cell? ⟨w0.heap.size, 0, none⟩ = some (.int .i64 n) ∧ w.cell? ⟨w0.heap.size, 1, none⟩ = some (.slice a zs.length cap) ∧ w.cell? ⟨w0.heap.size + 1, 0, none⟩ = some (.int .i64 v) ∧ w.cell? ⟨w0.heap.size + 1, 1, none⟩ = some (.slice b ws.length capb) :=
  ⟨h.1.2.1, h.1.2.2, h.2.1.2.1, h.2.1.2.2⟩
theorem implNeut_was (n v : Int) (a b : Option Addr) (cap capb : Nat) (zs ws : List Int) (w : World) (r : Bool) (hi : Ints w a zs) (hj : Ints w b ws) (hn : zs.length ≤ 1048576) (hm : ws.length ≤ 1048576) (hr : neutR n zs v ws = r) :
    Calls Try.prog 43 #[.agg #[.int .i64 n, .slice a zs.length cap], .agg #[.int .i64 v, .slice b ws.length capb]] w fun e w' => e = .returned (.bool r) ∧ Below w.heap.size w w' := by
  subst hr
  exact implIsNeutral_any n v a b cap capb zs ws w hi hj hn hm
theorem specNeut_was (n v : Int) (a b : Option Addr) (cap capb : Nat) (zs ws : List Int) (w : World) (r : Bool) (hi : Ints w a zs) (hj : Ints w b ws) (hn : zs.length ≤ 1048576) (hm : ws.length ≤ 1048576) (hr : neutR n zs v ws = r) :
    Calls Try.prog 44 #[.agg #[.int .i64 n, .slice a zs.length cap], .agg #[.int .i64 v, .slice b ws.length capb]] w fun e w' => e = .returned (.bool r) ∧ Below w.heap.size w w' := by
  subst hr
  exact specIsNeutral_any n v a b cap capb zs ws w hi hj hn hm
theorem implMono_was (n v : Int) (a b : Option Addr) (cap capb : Nat) (zs ws : List Int) (w : World) (r : Bool) (hi : Ints w a zs) (hj : Ints w b ws) (hn : zs.length ≤ 1048576) (hm : ws.length ≤ 1048576) (hr : monoR n zs v ws = r) :
    Calls Try.prog 34 #[.agg #[.int .i64 n, .slice a zs.length cap], .agg #[.int .i64 v, .slice b ws.length capb]] w fun e w' => e = .returned (.bool r) ∧ Below w.heap.size w w' := by
  subst hr
  exact implIsMonotone_any n v a b cap capb zs ws w hi hj hn hm
theorem specMono_was (n v : Int) (a b : Option Addr) (cap capb : Nat) (zs ws : List Int) (w : World) (r : Bool) (hi : Ints w a zs) (hj : Ints w b ws) (hn : zs.length ≤ 1048576) (hm : ws.length ≤ 1048576) (hr : monoR n zs v ws = r) :
    Calls Try.prog 35 #[.agg #[.int .i64 n, .slice a zs.length cap], .agg #[.int .i64 v, .slice b ws.length capb]] w fun e w' => e = .returned (.bool r) ∧ Below w.heap.size w w' := by
  subst hr
  exact specIsMonotone_any n v a b cap capb zs ws w hi hj hn hm
theorem implUnan_was (n v : Int) (a b : Option Addr) (cap capb : Nat) (zs ws : List Int) (w : World) (r : Bool) (hi : Ints w a zs) (hj : Ints w b ws) (hn : zs.length ≤ 1048576) (hm : ws.length ≤ 1048576) (hr : unanR n zs v ws = r) :
    Calls Try.prog 39 #[.agg #[.int .i64 n, .slice a zs.length cap], .agg #[.int .i64 v, .slice b ws.length capb]] w fun e w' => e = .returned (.bool r) ∧ Below w.heap.size w w' := by
  subst hr
  exact implIsUnanimous_any n v a b cap capb zs ws w hi hj hn hm
theorem specUnan_was (n v : Int) (a b : Option Addr) (cap capb : Nat) (zs ws : List Int) (w : World) (r : Bool) (hi : Ints w a zs) (hj : Ints w b ws) (hn : zs.length ≤ 1048576) (hm : ws.length ≤ 1048576) (hr : unanR n zs v ws = r) :
    Calls Try.prog 40 #[.agg #[.int .i64 n, .slice a zs.length cap], .agg #[.int .i64 v, .slice b ws.length capb]] w fun e w' => e = .returned (.bool r) ∧ Below w.heap.size w w' := by
  subst hr
  exact specIsUnanimous_any n v a b cap capb zs ws w hi hj hn hm
theorem implDict_was (n v : Int) (a b : Option Addr) (cap capb : Nat) (zs ws : List Int) (w : World) (r : Int) (hi : Ints w a zs) (hj : Ints w b ws) (hn : zs.length ≤ 1048576) (hm : ws.length ≤ 1048576) (hr : dictR n zs v ws = r) :
    Calls Try.prog 45 #[.agg #[.int .i64 n, .slice a zs.length cap], .agg #[.int .i64 v, .slice b ws.length capb]] w fun e w' => e = .returned (.int .i64 r) ∧ Below w.heap.size w w' := by
  subst hr
  exact implDictatorOf_any n v a b cap capb zs ws w hi hj hn hm
theorem implRule_was (n v : Int) (a b : Option Addr) (cap capb : Nat) (zs ws : List Int) (w : World) (r : Bool) (hi : Ints w a zs) (hj : Ints w b ws) (hn : zs.length ≤ 1048576) (hm : ws.length ≤ 1048576) (hr : vrB n zs v ws = r) :
    Calls Try.prog 36 #[.agg #[.int .i64 n, .slice a zs.length cap], .agg #[.int .i64 v, .slice b ws.length capb]] w fun e w' => e = .returned (.bool r) ∧ Below w.heap.size w w' := by
  subst hr
  exact implValidRule_any n v a b cap capb zs ws w hi hj hn hm
set_option maxHeartbeats 8000000 in
set_option maxRecDepth 100000 in
theorem walk_FnIsNeutral (a : Option Addr) (zs : List Nat) (cap : Nat) (w : World) (hi : Byts w a zs) (hl : zs.length ≤ maxLen) (hc : zs.length ≤ cap) :
    Calls Try.prog 8 #[.slice a zs.length cap] w fun e w' => e = .returned (.bool true) ∧ Below w.heap.size w w' := by
  by_cases h : 1048576 < zs.length
  · unfold maxLen at hl
    go_enter Try.func8, Try.ntmps8
    go_wp2
    go_ret
    exact ⟨rfl, Below.refl _ _⟩
  · have hl' : zs.length ≤ 1048576 := by omega
    clear h hl
    go_enter Try.func8, Try.ntmps8
    go_wp2_with fail
    refine (drawIsNeutral_any _ _ _ _ hi hl' hc).mono ?_
    rintro e w1 ⟨m, av, ss, cv, v, bv, ws, cb, rfl, iv, hsl, iw, hwl, hb⟩
    have S0 := SR.new w1 m v av bv ss ws cv cb 25 41 iv iw
    have HB := hide hb
    have hn : ss.length ≤ 1048576 := by omega
    have hm : ws.length ≤ 1048576 := by omega
    clear hb hi iv iw hl' hsl hwl
    obtain ⟨c0, c1, d0, d1⟩ := S0.cells5
    obtain ⟨nb, hnb⟩ : ∃ r, neutR m ss v ws = r := ⟨_, rfl⟩
    have HNB := hide hnb
    clear hnb
    go_wp2_with fail
    refine (implNeut_was _ _ _ _ _ _ _ _ _ _ S0.2.2.1 S0.2.2.2.1 hn hm HNB.out).mono ?_
    rintro e w2 ⟨rfl, b2⟩
    have S2 := S0.below b2
    clear c0 c1 d0 d1 S0 b2
    obtain ⟨c0, c1, d0, d1⟩ := S2.cells5
    go_wp2_with fail
    refine (specNeut_was _ _ _ _ _ _ _ _ _ _ S2.2.2.1 S2.2.2.2.1 hn hm HNB.out).mono ?_
    rintro e w3 ⟨rfl, b3⟩
    have S3 := S2.below b3
    clear c0 c1 d0 d1 S2 b3
    obtain ⟨c0, c1, d0, d1⟩ := S3.cells5
    have hne : (nb != nb) = false := by simp
    by_cases hv : vrB m ss v ws = false
    · have HV := hide hv
      clear hv
      go_wp2_with fail
      refine (implRule_was _ _ _ _ _ _ _ _ _ _ S3.2.2.1 S3.2.2.2.1 hn hm HV.out).mono ?_
      rintro e w4 ⟨rfl, b4⟩
      have S4 := S3.below b4
      clear c0 c1 d0 d1 S3 b4
      obtain ⟨c0, c1, d0, d1⟩ := S4.cells5
      go_wp2_with fail
      refine (specNeut_was _ _ _ _ _ _ _ _ _ _ S4.2.2.1 S4.2.2.2.1 hn hm HNB.out).mono ?_
      rintro e w5 ⟨rfl, b5⟩
      go_wp2
      go_ret
      exact ⟨ret_bool (by simp), bnext HB.out (S4.below b5).2.2.2.2⟩
    · have hv : vrB m ss v ws = true := by simpa using hv
      have HV := hide hv
      obtain ⟨d, hd⟩ : ∃ r, dictR m ss v ws = r := ⟨_, rfl⟩
      obtain ⟨mb, hmb⟩ : ∃ r, monoR m ss v ws = r := ⟨_, rfl⟩
      obtain ⟨ub, hub⟩ : ∃ r, unanR m ss v ws = r := ⟨_, rfl⟩
      have HD := hide hd
      have HM := hide hmb
      have HU := hide hub
      clear hv hd hmb hub
      go_wp2_with fail
      refine (implRule_was _ _ _ _ _ _ _ _ _ _ S3.2.2.1 S3.2.2.2.1 hn hm HV.out).mono ?_
      rintro e w4 ⟨rfl, b4⟩
      have S4 := S3.below b4
      clear c0 c1 d0 d1 S3 b4
      obtain ⟨c0, c1, d0, d1⟩ := S4.cells5
      go_wp2_with fail
      refine (implDict_was _ _ _ _ _ _ _ _ _ _ S4.2.2.1 S4.2.2.2.1 hn hm HD.out).mono ?_
      rintro e w5 ⟨rfl, b5⟩
      have S5 := S4.below b5
      clear c0 c1 d0 d1 S4 b5
      obtain ⟨c0, c1, d0, d1⟩ := S5.cells5
      cases nb with
      | false =>
        have hd0 : d < 0 := by have := neut_dict HV.out HNB.out; rw [HD.out] at this; exact this
        have hdd : decide (d < 0) = true := by simpa using hd0
        go_wp2
        go_ret
        exact ⟨rfl, bnext HB.out S5.2.2.2.2⟩
      | true =>
        by_cases hd0 : d < 0
        all_goals
          cases mb with
          | false =>
            go_wp2_with fail
            refine (implMono_was _ _ _ _ _ _ _ _ _ _ S5.2.2.1 S5.2.2.2.1 hn hm HM.out).mono ?_
            rintro e w6 ⟨rfl, b6⟩
            go_wp2
            go_ret
            exact ⟨rfl, bnext HB.out (S5.below b6).2.2.2.2⟩
          | true =>
            go_wp2_with fail
            refine (implMono_was _ _ _ _ _ _ _ _ _ _ S5.2.2.1 S5.2.2.2.1 hn hm HM.out).mono ?_
            rintro e w6 ⟨rfl, b6⟩
            have S6 := S5.below b6
            clear c0 c1 d0 d1 b6
            obtain ⟨c0, c1, d0, d1⟩ := S6.cells5
            go_wp2_with fail
            refine (implUnan_was _ _ _ _ _ _ _ _ _ _ S6.2.2.1 S6.2.2.2.1 hn hm (neut_mono HV.out HNB.out HM.out)).mono ?_
            rintro e w7 ⟨rfl, b7⟩
            go_wp2
            go_ret
            exact ⟨rfl, bnext HB.out (S6.below b7).2.2.2.2⟩
end Go.Proofs.Ytklfpbidbiippaa
