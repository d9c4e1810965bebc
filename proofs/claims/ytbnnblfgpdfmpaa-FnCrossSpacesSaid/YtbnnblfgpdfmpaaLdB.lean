/- Leads: small steps of both programs. -/
import Derived.Test.YtbnnblfgpdfmpaaLdM
import Derived.Deep.RegionWith
namespace Go.Proofs.Ytbnnblfgpdfmpaa
open Go.RowKit Go.Joins

theorem LDs.below {w2 wr wx : World} {B0 K : Nat} {r : List Nat} (h : LDs w2 B0 K r wr) (hb : Below wr.heap.size wr wx) : LDs w2 B0 K r wx := by
  have hk : ∀ v, wr.ownsRow B0 3 1 v K ((ci r).map (Value.int .i64)) → wx.ownsRow B0 3 1 v K ((ci r).map (Value.int .i64)) := fun v h => World.ownsRow.kept (row := none) h ⟨hb.os, hb.tape, hb.output, hb.size, fun k hk _ => hb.block k hk⟩ (by rcases v.ownBlock with _ | g <;> simp)
  exact ⟨hk _ h.1, gtrans h.2.1 ((grown_of hb).but _), h.2.2⟩
theorem orL (a b : Nat) (ha : a < 65536) (hb : b < 65536) : bits .or .i64 (a : Int) (b : Int) = ((a ||| b : Nat) : Int) := by
  have hx : a ||| b < 2 ^ 16 := Nat.or_lt_two_pow (by omega) (by omega)
  show IntKind.i64.wrap ((BitVec.ofInt 64 (a : Int) ||| BitVec.ofInt 64 (b : Int)).toNat : Int) = _
  rw [BitVec.toNat_or, ofInt_small a (by omega), ofInt_small b (by omega), IntKind.wrap_i64]
  omega
theorem andL (a b : Nat) (ha : a < 4294967296) (hb : b < 4294967296) : bits .and .i64 (a : Int) (b : Int) = ((a &&& b : Nat) : Int) := by
  have hx : a &&& b ≤ a := Nat.and_le_left
  show IntKind.i64.wrap ((BitVec.ofInt 64 (a : Int) &&& BitVec.ofInt 64 (b : Int)).toNat : Int) = _
  rw [BitVec.toNat_and, ofInt_small a (by omega), ofInt_small b (by omega), IntKind.wrap_i64]
  omega
theorem shrL (a k : Nat) (h : a < 65536) : bits .and .i64 ((a : Int) / 2 ^ k) 1 = ((bitN a k : Nat) : Int) := by
  have e : ((a : Int) / 2 ^ k) = ((a / 2 ^ k : Nat) : Int) := by simp
  have hle : a / 2 ^ k ≤ a := Nat.div_le_self _ _
  rw [e, show (1 : Int) = ((1 : Nat) : Int) from rfl, andL _ _ (by omega) (by omega), Nat.and_one_is_mod]
  rfl
theorem pwL (t : Nat) : pw (t : Int) = ((2 ^ t : Nat) : Int) := by unfold pw; rw [Int.toNat_natCast]
theorem power_le8 (n : Int) (h : n ≤ 8) : pw n ≤ 256 := by
  unfold pw
  have h1 : n.toNat ≤ 8 := by omega
  have : 2 ^ n.toNat ≤ 2 ^ 8 := Nat.pow_le_pow_right (by omega) h1
  omega
theorem power8_any (n : Int) (w : World) (h0 : 0 ≤ n) (h4 : n ≤ 8) : Calls Try.prog 39 #[.int .i64 n] w fun e w' => e = .returned (.int .i64 (pw n)) ∧ w = w' := by
  go_enter Try.func39, Try.ntmps39
  go_wp2
  go_loop [0, 3] (fun i o => ∃ k : Int, 0 ≤ k ∧ k ≤ n ∧ i = .int .i64 k ∧ o = .int .i64 (pw (n - k))) (fun i _ => (intOf i).toNat)
  case atStart => exact ⟨n, h0, Int.le_refl _, rfl, by rw [Int.sub_self]; rfl⟩
  case round =>
    obtain ⟨k, hk0, hkn, rfl, rfl⟩ := hrel
    have b1 := pw_pos (n - k)
    have b2 := power_le8 (n - k) (by omega)
    by_cases hlt : 0 < k
    · go_wp2
      go_round
      case rel => exact ⟨k - 1, by omega, by omega, by go_num, by rw [show n - (k - 1) = (n - k) + 1 from by omega, pw_succ _ (by omega)]⟩
      case measure => simp [intOf]; omega
    · obtain rfl : k = 0 := by omega
      go_wp2
      go_ret
      exact ⟨rfl, rfl⟩
theorem power8_was (t p : Nat) (w : World) (ht : t ≤ 8) (h : 2 ^ t = p) : Calls Try.prog 39 #[.int .i64 (t : Int)] w fun e w' => e = .returned (.int .i64 (p : Int)) ∧ w = w' := by
  have h1 := power8_any (t : Int) w (by omega) (by omega)
  rw [pwL, h] at h1
  exact h1
theorem bit8_any (a j : Nat) (w : World) (ha : a < 65536) (hj : j ≤ 8) : Calls Try.prog 79 #[.int .i64 a, .int .i64 j] w fun e w' => e = .returned (.int .i64 (bitN a j : Nat)) ∧ w = w' := by
  have h0 : pw 0 = 1 := rfl
  have h1 : pw 1 = 2 := rfl
  have h2 : pw 2 = 4 := rfl
  have h3 : pw 3 = 8 := rfl
  have h4 : pw 4 = 16 := rfl
  have h5 : pw 5 = 32 := rfl
  have h6 : pw 6 = 64 := rfl
  have h7 : pw 7 = 128 := rfl
  have h8 : pw 8 = 256 := rfl
  rcases (show j = 0 ∨ j = 1 ∨ j = 2 ∨ j = 3 ∨ j = 4 ∨ j = 5 ∨ j = 6 ∨ j = 7 ∨ j = 8 from by omega) with rfl | rfl | rfl | rfl | rfl | rfl | rfl | rfl | rfl
  all_goals
    go_enter Try.func79, Try.ntmps79
    go_wp2_with (go_at_call 39; refine (power8_any _ _ (by omega) (by omega)).mono ?_; rintro e w' ⟨rfl, rfl⟩)
    go_ret
    exact ⟨ret_int (by unfold bitN; simp; try omega), rfl⟩
theorem bit8_was (a j r : Nat) (w : World) (ha : a < 65536) (hj : j ≤ 8) (h : bitN a j = r) : Calls Try.prog 79 #[.int .i64 a, .int .i64 j] w fun e w' => e = .returned (.int .i64 (r : Nat)) ∧ w = w' := by
  subst h
  exact bit8_any a j w ha hj

theorem LDs.start {w0 w2 : World} {B0 K : Nat} (h : w0.ownsRow B0 3 1 (.slice (some ⟨B0, 0, none⟩) K K) K ((List.replicate K (0 : Int)).map (Value.int .i64))) (hb : Below w0.heap.size w0 w2) : LDs w2 B0 K (List.replicate K 0) w2 := by
  have hk : ∀ v, w0.ownsRow B0 3 1 v K ((List.replicate K (0 : Int)).map (Value.int .i64)) → w2.ownsRow B0 3 1 v K ((List.replicate K (0 : Int)).map (Value.int .i64)) := fun v h => World.ownsRow.kept (row := none) h ⟨hb.os, hb.tape, hb.output, hb.size, fun k hk _ => hb.block k hk⟩ (by rcases v.ownBlock with _ | g <;> simp)
  refine ⟨?_, (World.grownBy.refl _ _), by simp, fun x hx => by rw [List.eq_of_mem_replicate hx]; omega⟩
  have e : ci (List.replicate K 0) = List.replicate K (0 : Int) := by unfold ci; rw [List.map_replicate]; rfl
  rw [e]
  exact hk _ h
theorem LDs.keep {w2 wr : World} {B0 K : Nat} {r : List Nat} (h : LDs w2 B0 K r wr) {a : Addr} {v : Value} (hc : w2.cell? a = some v) (hne : a.block ≠ B0) : wr.cell? a = some v :=
  (gcell h.2.1 (a := a) (World.block_lt_of_cell? _ _ hc) (by simpa using hne)).trans hc

end Go.Proofs.Ytbnnblfgpdfmpaa
