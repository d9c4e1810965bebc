/- Quotas that are safe: plain mathematics. -/
import Derived.Test.YtklgganapphioaaQuotaW
import Derived.Test.YtklgganapphioaaCrI
import Derived.Test.YtklgganapphioaaLdB
namespace Go.Proofs.Ytklgganapphioaa
open Go.RowKit Go.Joins

/-- how many votes the answers of a part need together -/
def qsK (k : Int) (qs : List Int) (m : Nat × Nat) : Nat → Int
  | 0 => 0
  | j + 1 => if bitN m.2 j = 1 then qsK k qs m j + qs.getD j 0 else if bitN m.1 j = 1 then qsK k qs m j + (k + 1 - qs.getD j 0) else qsK k qs m j
theorem qsK_bit {k : Int} {qs : List Int} {m : Nat × Nat} {j : Nat} (h : bitN m.2 j = 1) : qsK k qs m (j + 1) = qsK k qs m j + qs.getD j 0 := by rw [qsK, if_pos h]
theorem qsK_care {k : Int} {qs : List Int} {m : Nat × Nat} {j : Nat} (h : bitN m.2 j = 0) (h' : bitN m.1 j = 1) : qsK k qs m (j + 1) = qsK k qs m j + (k + 1 - qs.getD j 0) := by rw [qsK, if_neg (by rw [h]; decide), if_pos h']
theorem qsK_none {k : Int} {qs : List Int} {m : Nat × Nat} {j : Nat} (h : bitN m.2 j = 0) (h' : bitN m.1 j = 0) : qsK k qs m (j + 1) = qsK k qs m j := by rw [qsK, if_neg (by rw [h]; decide), if_neg (by rw [h']; decide)]
theorem qsK_range {k : Int} {qs : List Int} (hk : 1 ≤ k ∧ k ≤ 5) (hq : ∀ j, j < qs.length → 1 ≤ qs.getD j 0 ∧ qs.getD j 0 ≤ k) (m : Nat × Nat) : ∀ j, j ≤ qs.length → 0 ≤ qsK k qs m j ∧ qsK k qs m j ≤ 5 * j
  | 0, _ => by simp [qsK]
  | j + 1, h => by
    have ih := qsK_range hk hq m j (by omega)
    have h1 := hq j (by omega)
    rw [qsK]
    split
    · push_cast
      omega
    · split
      · push_cast
        omega
      · push_cast
        omega
def qfew (k : Int) (qs : List Int) (N : Nat) (m : Nat × Nat) : Bool := decide (qsK k qs m N ≤ k * ((wt m.1 : Nat) - 1 : Int))
def QsOk (n : Int) (zs : List Int) (k : Int) (qs : List Int) : Prop := vsB n zs = true ∧ (1 ≤ k ∧ k ≤ 5) ∧ quotasB n k qs = true
instance (n : Int) (zs : List Int) (k : Int) (qs : List Int) : Decidable (QsOk n zs k qs) := by unfold QsOk; infer_instance
/-- what IsQuotaSafe answers -/
def qsB (n : Int) (zs : List Int) (k : Int) (qs : List Int) : Bool := decide (QsOk n zs k qs) && (critL n.toNat zs).all fun m => !qfew k qs n.toNat m
theorem qsB_no {n : Int} {zs : List Int} {k : Int} {qs : List Int} (h : ¬ QsOk n zs k qs) : qsB n zs k qs = false := by unfold qsB; rw [decide_eq_false h]; rfl
theorem qsB_yes {n : Int} {zs : List Int} {k : Int} {qs : List Int} (h : QsOk n zs k qs) : qsB n zs k qs = (critL n.toNat zs).all fun m => !qfew k qs n.toNat m := by unfold qsB; rw [decide_eq_true h]; rfl
theorem quotas_in {n k : Int} {qs : List Int} (h : quotasB n k qs = true) : (∀ j, j < qs.length → 1 ≤ qs.getD j 0 ∧ qs.getD j 0 ≤ k) ∧ (qs.length : Int) = n := by
  have hq := quotas_of h
  refine ⟨fun j hj => ?_, hq.2⟩
  have h1 := hq.1 j hj
  unfold qOut at h1
  simp only [decide_eq_false_iff_not] at h1
  omega
theorem qs_found {N : Nat} {zs : List Int} {k : Int} {qs : List Int} (h : QsOk (N : Int) zs k qs) {i : Nat} (hi : i < (critL N zs).length) (hq : qfew k qs N (critL N zs)[i] = true) : qsB (N : Int) zs k qs = false := by
  rw [qsB_yes h, Int.toNat_natCast, List.all_eq_false]
  exact ⟨_, List.getElem_mem hi, by rw [hq]; decide⟩
theorem qs_all {N : Nat} {zs : List Int} {k : Int} {qs : List Int} (h : QsOk (N : Int) zs k qs) (ha : ∀ i (hi : i < (critL N zs).length), qfew k qs N (critL N zs)[i] = false) : qsB (N : Int) zs k qs = true := by
  rw [qsB_yes h, Int.toNat_natCast, List.all_eq_true]
  intro m hm
  obtain ⟨i, hi, rfl⟩ := List.getElem_of_mem hm
  rw [ha i hi]
  rfl

theorem inR_was (n l h : Int) (r : Bool) (w : World) (hr : decide (l ≤ n ∧ n ≤ h) = r) : Calls Try.prog 78 #[.int .i64 n, .int .i64 l, .int .i64 h] w fun e w' => e = .returned (.bool r) ∧ w = w' := by
  subst hr
  exact inRange_any n l h w
theorem specVQ_was (n k : Int) (a l : Option Addr) (cap capl len : Nat) (qs : List Int) (r : Bool) (w : World) (hj : Ints w l qs) (hm : qs.length ≤ 1048576) (h : quotasB n k qs = r) :
    Calls Try.prog 79 #[.agg #[.int .i64 n, .slice a len cap], .int .i64 k, .slice l qs.length capl] w fun e w' => e = .returned (.bool r) ∧ Below w.heap.size w w' := by
  subst h
  exact validQuotas_any n k a l cap capl len qs w hj hm
theorem implVQ_was (n k : Int) (a l : Option Addr) (cap capl len : Nat) (qs : List Int) (r : Bool) (w : World) (hj : Ints w l qs) (hm : qs.length ≤ 1048576) (h : quotasB n k qs = r) :
    Calls Try.prog 83 #[.agg #[.int .i64 n, .slice a len cap], .int .i64 k, .slice l qs.length capl] w fun e w' => e = .returned (.bool r) ∧ Below w.heap.size w w' := by
  subst h
  exact implValidQuotas_any n k a l cap capl len qs w hj hm
theorem validCount_any (n : Int) (r : Bool) (w : World) (h : decide (1 ≤ n ∧ n ≤ 5) = r) : Calls Try.prog 82 #[.int .i64 n] w fun e w' => e = .returned (.bool r) ∧ w = w' := by
  by_cases h1 : 1 ≤ n
  · by_cases h2 : n ≤ 5
    · have hr : r = true := by rw [← h]; exact decide_eq_true ⟨h1, h2⟩
      subst hr
      clear h
      go_enter Try.func82, Try.ntmps82
      go_wp2_with fail
      go_ret
      exact ⟨rfl, rfl⟩
    · have hr : r = false := by rw [← h]; exact decide_eq_false fun h' => h2 h'.2
      subst hr
      clear h
      go_enter Try.func82, Try.ntmps82
      go_wp2_with fail
      go_ret
      exact ⟨rfl, rfl⟩
  · have hr : r = false := by rw [← h]; exact decide_eq_false fun h' => h1 h'.1
    subst hr
    clear h
    go_enter Try.func82, Try.ntmps82
    go_wp2_with fail
    go_ret
    exact ⟨rfl, rfl⟩
end Go.Proofs.Ytklgganapphioaa
