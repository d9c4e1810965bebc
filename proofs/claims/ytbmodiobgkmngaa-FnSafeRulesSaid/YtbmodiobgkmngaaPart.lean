/- Parts: their check in the model and in the program; ValidPart. -/
import Derived.Test.YtbmodiobgkmngaaSV
import Derived.Test.YtbmodiobgkmngaaBits
import Derived.Deep.RegionWith
namespace Go.Proofs.Ytbmodiobgkmngaa
open Go.RowKit Go.Joins

/-- what a part of judgments about n issues is -/
def IsPt (n c b : Int) : Prop := (0 ≤ c ∧ c ≤ pw n - 1) ∧ (0 ≤ b ∧ b ≤ pw n - 1) ∧ b.toNat &&& c.toNat = b.toNat
instance (n c b : Int) : Decidable (IsPt n c b) := by unfold IsPt; infer_instance
def ptB (n c b : Int) : Bool := decide (IsPt n c b)
theorem ptB_true {n c b : Int} (h : IsPt n c b) : ptB n c b = true := by simpa [ptB] using h
theorem ptB_false {n c b : Int} (h : ¬ IsPt n c b) : ptB n c b = false := by simpa [ptB] using h


set_option maxHeartbeats 1000000 in
theorem validPart_any (n c b : Int) (a : Option Addr) (cap len : Nat) (w : World) (h0 : 0 ≤ n) (h4 : n ≤ 4) :
    Calls Try.prog 97 #[.agg #[.int .i64 n, .slice a len cap], .agg #[.int .i64 c, .int .i64 b]] w fun e w' => e = .returned (.bool (ptB n c b)) ∧ Below w.heap.size w w' := by
  have p1 := pw_pos n
  have p2 := pw_le n h4
  have hw : IntKind.i64.wrap (pw n - 1) = pw n - 1 := IntWalk.i64_in _ (by omega)
  by_cases hc : 0 ≤ c ∧ c ≤ pw n - 1
  · by_cases hb : 0 ≤ b ∧ b ≤ pw n - 1
    · have hand : bits .and .i64 b c = ((b.toNat &&& c.toNat : Nat) : Int) := by
        obtain ⟨x, rfl⟩ := Int.eq_ofNat_of_zero_le hc.1
        obtain ⟨y, rfl⟩ := Int.eq_ofNat_of_zero_le hb.1
        rw [and_small y x (by omega) (by omega)]; simp
      have HC := hide hc
      have HB := hide hb
      by_cases he : b.toNat &&& c.toNat = b.toNat
      · have hE : (bits .and .i64 b c == b) = true := by rw [hand, he]; simp; omega
        have HP := hide (ptB_true (n := n) (c := c) (b := b) ⟨hc, hb, he⟩)
        clear he hand hc hb
        go_enter Try.func97, Try.ntmps97
        go_wp2_with fail
        go_quiet ((first | (go_at_call 60; exact quiet_left (power_any _ _ (by omega) (by omega))) | (go_at_call_of 31 (Value.int IntKind.i64 c); exact quiet_left (inRange_yes _ _ _ _ HC.out)) | (go_at_call_of 31 (Value.int IntKind.i64 b); exact quiet_left (inRange_yes _ _ _ _ HB.out))))
        go_wp2
        go_ret
        exact ⟨ret_bool HP.out.symm, bnext (bel2 w _ _) (belN _ _)⟩
      · have hE : (bits .and .i64 b c == b) = false := by rw [hand, beq_eq_false_iff_ne]; omega
        have HP := hide (ptB_false (n := n) (c := c) (b := b) (fun h => he h.2.2))
        clear he hand hc hb
        go_enter Try.func97, Try.ntmps97
        go_wp2_with fail
        go_quiet ((first | (go_at_call 60; exact quiet_left (power_any _ _ (by omega) (by omega))) | (go_at_call_of 31 (Value.int IntKind.i64 c); exact quiet_left (inRange_yes _ _ _ _ HC.out)) | (go_at_call_of 31 (Value.int IntKind.i64 b); exact quiet_left (inRange_yes _ _ _ _ HB.out))))
        go_wp2
        go_ret
        exact ⟨ret_bool HP.out.symm, bnext (bel2 w _ _) (belN _ _)⟩
    · have HP := hide (ptB_false (n := n) (c := c) (b := b) (fun h => hb h.2.1))
      have HC := hide hc
      have HB := hide hb
      clear hc hb
      go_enter Try.func97, Try.ntmps97
      go_wp2_with fail
      go_quiet ((first | (go_at_call 60; exact quiet_left (power_any _ _ (by omega) (by omega))) | (go_at_call_of 31 (Value.int IntKind.i64 c); exact quiet_left (inRange_yes _ _ _ _ HC.out)) | (go_at_call_of 31 (Value.int IntKind.i64 b); exact quiet_left (inRange_no _ _ _ _ HB.out))))
      go_wp2
      go_ret
      exact ⟨ret_bool HP.out.symm, bnext (bel2 w _ _) (belN _ _)⟩
  · have HP := hide (ptB_false (n := n) (c := c) (b := b) (fun h => hc h.1))
    have HC := hide hc
    clear hc
    go_enter Try.func97, Try.ntmps97
    go_wp2_with fail
    go_quiet ((first | (go_at_call 60; exact quiet_left (power_any _ _ (by omega) (by omega))) | (go_at_call_of 31 (Value.int IntKind.i64 c); exact quiet_left (inRange_no _ _ _ _ HC.out))))
    go_wp2
    go_ret
    exact ⟨ret_bool HP.out.symm, bnext (bel2 w _ _) (belN _ _)⟩

theorem pt_iff {n c b : Int} (h4 : n ≤ 4) (hc : 0 ≤ c ∧ c ≤ pw n - 1) (wb : (Lit.int .i64 b).wf = true) : bits .andNot .i64 b c = 0 ↔ IsPt n c b := by
  have p2 := pw_le n h4
  obtain ⟨x, rfl⟩ := Int.eq_ofNat_of_zero_le hc.1
  rw [andNot_zero b x wb (by omega)]
  constructor
  · rintro ⟨h0, h⟩
    obtain ⟨y, rfl⟩ := Int.eq_ofNat_of_zero_le h0
    have hle : y &&& x ≤ x := Nat.and_le_right
    rw [Int.toNat_natCast] at h
    exact ⟨hc, ⟨by omega, by omega⟩, by simpa using h⟩
  · rintro ⟨_, h1, h2⟩
    exact ⟨h1.1, by simpa using h2⟩


/-- what ValidPart answers -/
def vpB (n : Int) (zs : List Int) (c b : Int) : Bool := vsB n zs && ptB n c b
theorem vpB_false {n : Int} {zs : List Int} {c b : Int} (h : vsB n zs = false) : vpB n zs c b = false := by unfold vpB; rw [h]; rfl
theorem vpB_true {n : Int} {zs : List Int} {c b : Int} (h : vsB n zs = true) : vpB n zs c b = ptB n c b := by unfold vpB; rw [h]; rfl



end Go.Proofs.Ytbmodiobgkmngaa
