/- The promise of IsJust: its draw and its law's walk. -/
import Derived.Test.YtgkaghappogglaaDrawB3
import Derived.Test.YtgkaghappogglaaWroJ
import Derived.Test.YtgkaghappogglaaJustM
import Derived.Deep.QuietTactic
import Derived.BigQuiet
namespace Go.Proofs.Ytgkaghappogglaa
open Go.RowKit Go.Joins

set_option maxHeartbeats 1000000 in
theorem drawJust_any (a : Option Addr) (cap : Nat) (zs : List Nat) (w : World) (hi : Byts w a zs) (hl : zs.length ≤ 1048576) (hc : zs.length ≤ cap) :
    Calls Try.prog 46 #[.slice a zs.length cap] w (DrawW w) := by
  go_enter Try.func46, Try.ntmps46
  go_wp2_with fail
  refine (drawW_any _ _ _ _ hi hl hc).mono ?_
  rintro e w1 ⟨s, c, ab, bs, cb, k, x, rfl, hc6, ib, hb6, hx, hb1⟩
  go_wp2
  (try simp only [Exit.inBlock, Exit.then])
  refine bodyPost_ret (results_tmp5 rfl _ _ _) rfl ?_
  exact ⟨s, c, ab, bs, cb, k, x, rfl, hc6, ib, hb6, hx, hb1⟩
def oneS : ByteArray := ⟨#[111, 110, 101]⟩
def togS : ByteArray := ⟨#[116, 111, 103, 101, 116, 104, 101, 114]⟩
def somS : ByteArray := ⟨#[115, 111, 109, 101, 111, 110, 101]⟩
theorem claim_one : claimN oneS = 1 := by decide +kernel
theorem claim_tog : claimN togS = 2 := by decide +kernel
theorem claim_som : claimN somS = 3 := by decide +kernel
theorem bad_mono {p q : Nat} {bs : List Int} {m k w l g : Nat} (h : wrongB p (memL bs g) l w = true → wrongB q (memL bs g) l w = true) (hb : badB q bs m k w l g = false) : badB p bs m k w l g = false := by
  unfold badB at hb ⊢
  cases hd : dueB (memL bs g) m bs.length k l
  · rfl
  · rw [hd, Bool.true_and] at hb
    rw [Bool.true_and]
    cases hw : wrongB p (memL bs g) l w
    · rfl
    · rw [h hw] at hb; cases hb
theorem seated_lt {c : Int} {bs : List Int} {k x : Int} (h : seatedB c bs k x = true) : x.toNat < 32 := by
  obtain ⟨h1, h2, _⟩ := seated_of h
  have h3 := pw_le5 c (seats_of h1).1.1.2
  omega
theorem just_som_tog {c : Int} {bs : List Int} {k x : Int} (h : justB somS c bs k x = true) : justB togS c bs k x = true := by
  have hs : seatedB c bs k x = true := by
    unfold justB at h
    cases hs : seatedB c bs k x
    · rw [hs] at h; simp at h
    · rfl
  rw [just_iff (by rw [claim_som]; decide) hs, claim_som] at h
  rw [just_iff (by rw [claim_tog]; decide) hs, claim_tog]
  exact fun l h1 h2 g hg => bad_mono (two_three (seated_lt hs)) (h l h1 h2 g hg)
theorem just_tog_one {c : Int} {bs : List Int} {k x : Int} (h : justB togS c bs k x = true) : justB oneS c bs k x = true := by
  have hs : seatedB c bs k x = true := by
    unfold justB at h
    cases hs : seatedB c bs k x
    · rw [hs] at h; simp at h
    · rfl
  rw [just_iff (by rw [claim_tog]; decide) hs, claim_tog] at h
  rw [just_iff (by rw [claim_one]; decide) hs, claim_one]
  exact fun l h1 h2 g hg => bad_mono (one_two (seated_lt hs)) (h l h1 h2 g hg)
theorem just_no {s : ByteArray} {c : Int} {bs : List Int} {k x : Int} (h : claimN s = 1) : justB s c bs k x = justB oneS c bs k x := by
  unfold justB wroA
  rw [h, claim_one]
theorem just_last {s : ByteArray} {c : Int} {bs : List Int} {k x : Int} (h : s.toList = [111, 110, 101]) : justB s c bs k x = justB oneS c bs k x := by
  refine just_no ?_
  unfold claimN
  rw [if_pos (by rw [h]; decide)]
theorem just_mid {a b : Bool} (h : a = true → b = true) : (!a || b) = true := by
  cases a
  · rfl
  · rw [h rfl]; rfl
set_option maxHeartbeats 4000000 in
set_option maxRecDepth 100000 in
theorem walk_FnIsJust (a : Option Addr) (zs : List Nat) (cap : Nat) (w : World) (hi : Byts w a zs) (hl : zs.length ≤ maxLen) (hc : zs.length ≤ cap) :
    Calls Try.prog 10 #[.slice a zs.length cap] w fun e w' => e = .returned (.bool true) ∧ Below w.heap.size w w' := by
  by_cases h : 1048576 < zs.length
  · unfold maxLen at hl
    go_enter Try.func10, Try.ntmps10
    go_wp2
    go_ret
    exact ⟨rfl, Below.refl _ _⟩
  · have hl' : zs.length ≤ 1048576 := by omega
    clear h hl
    go_enter Try.func10, Try.ntmps10
    go_wp2_with fail
    refine (drawJust_any _ _ _ _ hi hl' hc).mono ?_
    rintro e w1 ⟨s, c, ab, bs, cb, k, x, rfl, hc6, ib, hb6, hx, hb1⟩
    have hn : bs.length ≤ 1048576 := by omega
    clear hi
    have hne0 : ((justB s c bs k x) != (justB s c bs k x)) = false := by simp
    go_wp2_with fail
    refine (implIsJust_any _ _ _ _ _ _ _ _ ib hn).mono ?_
    rintro e w2 ⟨rfl, hb2⟩
    have ib2 := ib.below hb2
    have B2 := bnext hb1 hb2
    clear ib hb1 hb2
    go_wp2_with fail
    refine (specIsJust_any _ _ _ _ _ _ _ _ ib2 hn).mono ?_
    rintro e w3 ⟨rfl, hb3⟩
    have ib3 := ib2.below hb3
    have B3 := bnext B2 hb3
    clear ib2 B2 hb3
    go_wp2_with fail
    refine (implBal_any _ _ _ _ _ ib3 hn).mono ?_
    rintro e w4 ⟨rfl, hb4⟩
    have ib4 := ib3.below hb4
    have B4 := bnext B3 hb4
    clear ib3 B3 hb4
    by_cases hv : balB c bs = true
    · obtain ⟨q1, hq1⟩ : ∃ q, q = justB somS c bs k x := ⟨_, rfl⟩
      obtain ⟨q2, hq2⟩ : ∃ q, q = justB togS c bs k x := ⟨_, rfl⟩
      obtain ⟨q3, hq3⟩ : ∃ q, q = justB oneS c bs k x := ⟨_, rfl⟩
      obtain ⟨q0, hq0⟩ : ∃ q, q = justB s c bs k x := ⟨_, rfl⟩
      have M1 : Hid ((!q1 || q2) = true) := just_mid (by rw [hq1, hq2]; exact just_som_tog)
      have M2 : Hid ((!q2 || q3) = true) := just_mid (by rw [hq2, hq3]; exact just_tog_one)
      have M3 : Hid (s.toList = [111, 110, 101] → q0 = q3) := fun h => by rw [hq0, hq3]; exact just_last h
      rw [← hq0] at hne0 ⊢
      have Q1 := hide hq1
      have Q2 := hide hq2
      have Q3 := hide hq3
      clear hq1 hq2 hq3 hq0
      go_wp2_with fail
      refine (implIsJust_any somS _ _ _ _ _ _ _ ib4 hn).mono ?_
      rintro e w5 ⟨rfl, hb5⟩
      have ib5 := ib4.below hb5
      have B5 := bnext B4 hb5
      clear ib4 B4 hb5
      rw [← Q1.out]
      go_wp2_with fail
      refine (implIsJust_any togS _ _ _ _ _ _ _ ib5 hn).mono ?_
      rintro e w6 ⟨rfl, hb6'⟩
      have ib6 := ib5.below hb6'
      have B6 := bnext B5 hb6'
      clear ib5 B5 hb6'
      rw [← Q2.out]
      go_wp2_with fail
      refine (implIsJust_any oneS _ _ _ _ _ _ _ ib6 hn).mono ?_
      rintro e w7 ⟨rfl, hb7⟩
      have B7 := bnext B6 hb7
      clear ib6 B6 hb7
      rw [← Q3.out]
      have m1 := M1.out
      have m2 := M2.out
      cases q1 <;> cases q2 <;> cases q3 <;> first | (cases m1; done) | (cases m2; done) | skip
      all_goals
        by_cases hs : s.toList = [111, 110, 101]
        · have m3 := M3.out hs
          subst m3
          go_wp2
          go_ret
          exact ⟨rfl, B7⟩
        · go_wp2
          go_ret
          exact ⟨rfl, B7⟩
    · have hv : balB c bs = false := by simpa using hv
      go_wp2_with fail
      refine (specIsJust_any _ _ _ _ _ _ _ _ ib4 hn).mono ?_
      rintro e w5 ⟨rfl, hb5⟩
      go_wp2
      go_ret
      exact ⟨ret_bool (by simp), bnext B4 hb5⟩
end Go.Proofs.Ytgkaghappogglaa
