/- Go's bit operations on int at small numbers. Nothing of the program. -/
import Derived.WalkKit
import Derived.Laws.BitsAllLaws
import Derived.OpenShut
namespace Go.Proofs.Ytbmodiobgkmngaa
open Go.RowKit

theorem ofInt_small (a : Nat) (ha : a < 9223372036854775808) : (BitVec.ofInt 64 (a : Int)).toNat = a := by
  rw [BitVec.ofInt_natCast, BitVec.toNat_ofNat]; exact Nat.mod_eq_of_lt (by omega)
theorem xor_small (a b : Nat) (ha : a < 16) (hb : b < 16) : bits .xor .i64 (a : Int) (b : Int) = ((a ^^^ b : Nat) : Int) := by
  have hx : a ^^^ b < 2 ^ 4 := Nat.xor_lt_two_pow (by omega) (by omega)
  show IntKind.i64.wrap ((BitVec.ofInt 64 (a : Int) ^^^ BitVec.ofInt 64 (b : Int)).toNat : Int) = _
  rw [BitVec.toNat_xor, ofInt_small a (by omega), ofInt_small b (by omega), IntKind.wrap_i64]
  omega
theorem and_small (a b : Nat) (ha : a < 16) (hb : b < 16) : bits .and .i64 (a : Int) (b : Int) = ((a &&& b : Nat) : Int) := by
  have hx : a &&& b < 2 ^ 4 := Nat.and_lt_two_pow _ (by omega)
  show IntKind.i64.wrap ((BitVec.ofInt 64 (a : Int) &&& BitVec.ofInt 64 (b : Int)).toNat : Int) = _
  rw [BitVec.toNat_and, ofInt_small a (by omega), ofInt_small b (by omega), IntKind.wrap_i64]
  omega
theorem or_small (a b : Nat) (ha : a < 16) (hb : b < 16) : bits .or .i64 (a : Int) (b : Int) = ((a ||| b : Nat) : Int) := by
  have hx : a ||| b < 2 ^ 4 := Nat.or_lt_two_pow (by omega) (by omega)
  show IntKind.i64.wrap ((BitVec.ofInt 64 (a : Int) ||| BitVec.ofInt 64 (b : Int)).toNat : Int) = _
  rw [BitVec.toNat_or, ofInt_small a (by omega), ofInt_small b (by omega), IntKind.wrap_i64]
  omega
theorem bv_andNot (B C : BitVec 64) : B &&& ~~~C = 0#64 ↔ B &&& C = B := by
  constructor
  · intro h
    apply BitVec.eq_of_getLsbD_eq
    intro i hi
    have := congrArg (fun v : BitVec 64 => v.getLsbD i) h
    simp [hi] at this ⊢
    exact this
  · intro h
    apply BitVec.eq_of_getLsbD_eq
    intro i hi
    have := congrArg (fun v : BitVec 64 => v.getLsbD i) h
    simp [hi] at this ⊢
    exact this
theorem wrap_zero (r : BitVec 64) : IntKind.i64.wrap (r.toNat : Int) = 0 ↔ r = 0#64 := by
  have hr := r.isLt
  rw [IntKind.wrap_i64]
  constructor
  · intro h
    apply BitVec.eq_of_toNat_eq
    simp
    omega
  · rintro rfl
    simp
/-- 'b &^ c == 0' says that b has no digit beside c's: so b is a number within c's. -/
theorem andNot_zero (b : Int) (c : Nat) (hb : (Lit.int .i64 b).wf = true) (hc : c < 16) : bits .andNot .i64 b (c : Int) = 0 ↔ (0 ≤ b ∧ b.toNat &&& c = b.toNat) := by
  have hbb := bounds_i64 hb
  show IntKind.i64.wrap ((BitVec.ofInt 64 b &&& ~~~BitVec.ofInt 64 (c : Int)).toNat : Int) = 0 ↔ _
  rw [wrap_zero, bv_andNot]
  have hC := ofInt_small c (by omega)
  constructor
  · intro h
    have h2 : (BitVec.ofInt 64 b).toNat &&& c = (BitVec.ofInt 64 b).toNat := by
      have := congrArg BitVec.toNat h
      rwa [BitVec.toNat_and, hC] at this
    have hle : (BitVec.ofInt 64 b).toNat ≤ c := by rw [← h2]; exact Nat.and_le_right
    have hto := BitVec.toNat_ofInt (n := 64) b
    have hb0 : 0 ≤ b := by omega
    have e : (BitVec.ofInt 64 b).toNat = b.toNat := by omega
    rw [e] at h2
    exact ⟨hb0, h2⟩
  · rintro ⟨h0, h⟩
    obtain ⟨b', rfl⟩ := Int.eq_ofNat_of_zero_le h0
    rw [Int.toNat_natCast] at h
    apply BitVec.eq_of_toNat_eq
    rw [BitVec.toNat_and, hC, ofInt_small b' (by omega), h]
/-- the judgment x has all answers of the part -/
def hpB (x c b : Int) : Bool := x.toNat &&& c.toNat == b.toNat
theorem hp_and {x c b : Int} (hx : 0 ≤ x ∧ x ≤ 15) (hc : 0 ≤ c ∧ c ≤ 15) (hb : 0 ≤ b) : (bits .and .i64 x c == b) = hpB x c b := by
  obtain ⟨x, rfl⟩ := Int.eq_ofNat_of_zero_le hx.1
  obtain ⟨c, rfl⟩ := Int.eq_ofNat_of_zero_le hc.1
  obtain ⟨b, rfl⟩ := Int.eq_ofNat_of_zero_le hb
  rw [and_small x c (by omega) (by omega)]
  unfold hpB
  rw [Bool.eq_iff_iff, beq_iff_eq, beq_iff_eq]
  simp only [Int.toNat_natCast]
  omega
end Go.Proofs.Ytbmodiobgkmngaa
