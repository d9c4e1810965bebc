/- The promise of IsJust: its draw and its law's walk. -/
import Derived.Test.YthkikjidkehheaaDrawB3
import Derived.Test.YthkikjidkehheaaWroJ
import Derived.Test.YthkikjidkehheaaJustM
import Derived.Deep.QuietTactic
import Derived.BigQuiet
namespace Go.Proofs.Ythkikjidkehheaa
open Go.RowKit Go.Joins

def oneS : ByteArray := ⟨#[111, 110, 101]⟩
def togS : ByteArray := ⟨#[116, 111, 103, 101, 116, 104, 101, 114]⟩
def somS : ByteArray := ⟨#[115, 111, 109, 101, 111, 110, 101]⟩
theorem claim_one : claimN oneS = 1 := by decide +kernel
theorem claim_tog : claimN togS = 2 := by decide +kernel
theorem claim_som : claimN somS = 3 := by decide +kernel
theorem bad_mono {p q : Nat} {bs : List Int} {m k w l g : Nat} (h : wrongB p (memL bs g) l w = true → wrongB q (memL bs g) l w = true) (hb : badB q bs m k w l g = false) : badB p bs m k w l g = false := by
  unfold badB at hb ⊢
  cases hd : dueB (memL bs g) m bs.length k l
  · rfl
  · rw [hd, Bool.true_and] at hb
    rw [Bool.true_and]
    cases hw : wrongB p (memL bs g) l w
    · rfl
    · rw [h hw] at hb; cases hb
theorem seated_lt {c : Int} {bs : List Int} {k x : Int} (h : seatedB c bs k x = true) : x.toNat < 32 := by
  obtain ⟨h1, h2, _⟩ := seated_of h
  have h3 := pw_le5 c (seats_of h1).1.1.2
  omega
theorem just_som_tog {c : Int} {bs : List Int} {k x : Int} (h : justB somS c bs k x = true) : justB togS c bs k x = true := by
  have hs : seatedB c bs k x = true := by
    unfold justB at h
    cases hs : seatedB c bs k x
    · rw [hs] at h; simp at h
    · rfl
  rw [just_iff (by rw [claim_som]; decide) hs, claim_som] at h
  rw [just_iff (by rw [claim_tog]; decide) hs, claim_tog]
  exact fun l h1 h2 g hg => bad_mono (two_three (seated_lt hs)) (h l h1 h2 g hg)
theorem just_tog_one {c : Int} {bs : List Int} {k x : Int} (h : justB togS c bs k x = true) : justB oneS c bs k x = true := by
  have hs : seatedB c bs k x = true := by
    unfold justB at h
    cases hs : seatedB c bs k x
    · rw [hs] at h; simp at h
    · rfl
  rw [just_iff (by rw [claim_tog]; decide) hs, claim_tog] at h
  rw [just_iff (by rw [claim_one]; decide) hs, claim_one]
  exact fun l h1 h2 g hg => bad_mono (one_two (seated_lt hs)) (h l h1 h2 g hg)
theorem just_no {s : ByteArray} {c : Int} {bs : List Int} {k x : Int} (h : claimN s = 1) : justB s c bs k x = justB oneS c bs k x := by
  unfold justB wroA
  rw [h, claim_one]
theorem just_last {s : ByteArray} {c : Int} {bs : List Int} {k x : Int} (h : s.toList = [111, 110, 101]) : justB s c bs k x = justB oneS c bs k x := by
  refine just_no ?_
  unfold claimN
  rw [if_pos (by rw [h]; decide)]
theorem just_mid {a b : Bool} (h : a = true → b = true) : (!a || b) = true := by
  cases a
  · rfl
  · rw [h rfl]; rfl
end Go.Proofs.Ythkikjidkehheaa
