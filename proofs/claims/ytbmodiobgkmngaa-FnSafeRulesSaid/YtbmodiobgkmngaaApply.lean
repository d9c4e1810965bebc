/- ApplyRule in the model and in the program: which groups win. -/
import Derived.Test.YtbmodiobgkmngaaTabS
namespace Go.Proofs.Ytbmodiobgkmngaa
open Go.RowKit Go.Joins

/-- the voters among the first k that answer 1 to an issue -/
def groupK (vs : List Int) (j : Nat) : Nat → Nat
  | 0 => 0
  | k + 1 => groupK vs j k + 2 ^ k * bitN (vs.getD k 0).toNat j
theorem groupK_lt (vs : List Int) (j : Nat) : ∀ k, groupK vs j k < 2 ^ k
  | 0 => by simp [groupK]
  | k + 1 => by
    have h1 := groupK_lt vs j k
    have h2 := bitN_le (vs.getD k 0).toNat j
    have h3 : 2 ^ k * bitN (vs.getD k 0).toNat j ≤ 2 ^ k * 1 := Nat.mul_le_mul_left _ h2
    unfold groupK
    rw [Nat.pow_succ]
    omega
theorem groupK_or (vs : List Int) (j k : Nat) : groupK vs j (k + 1) = groupK vs j k ||| 2 ^ k * bitN (vs.getD k 0).toNat j := by
  rw [groupK, Nat.or_comm, ← Nat.two_pow_add_eq_or_of_lt (groupK_lt vs j k), Nat.add_comm]
/-- the issues among the first k for which the group wins -/
def applyK (vs ws : List Int) : Nat → Nat
  | 0 => 0
  | k + 1 => applyK vs ws k + 2 ^ k * bitN (ws.getD k 0).toNat (groupK vs k vs.length)
theorem applyK_lt (vs ws : List Int) : ∀ k, applyK vs ws k < 2 ^ k
  | 0 => by simp [applyK]
  | k + 1 => by
    have h1 := applyK_lt vs ws k
    have h2 := bitN_le (ws.getD k 0).toNat (groupK vs k vs.length)
    have h3 : 2 ^ k * bitN (ws.getD k 0).toNat (groupK vs k vs.length) ≤ 2 ^ k * 1 := Nat.mul_le_mul_left _ h2
    unfold applyK
    rw [Nat.pow_succ]
    omega
theorem applyK_or (vs ws : List Int) (k : Nat) : applyK vs ws (k + 1) = applyK vs ws k ||| 2 ^ k * bitN (ws.getD k 0).toNat (groupK vs k vs.length) := by
  rw [applyK, Nat.or_comm, ← Nat.two_pow_add_eq_or_of_lt (applyK_lt vs ws k), Nat.add_comm]
theorem pw_natA (k : Nat) : pw (k : Int) = ((2 ^ k : Nat) : Int) := by unfold pw; rw [Int.toNat_natCast]
theorem two_le (k m : Nat) (h : k ≤ m) : 2 ^ k ≤ 2 ^ m := Nat.pow_le_pow_right (by omega) h

theorem pw_mul (k b : Nat) : pw (k : Int) * ((b : Nat) : Int) = ((2 ^ k * b : Nat) : Int) := by rw [pw_natA, Int.natCast_mul]
theorem wrap_sum (g m : Nat) (h : g + m < 1000000) : wrap64 (((g : Nat) : Int) + wrap64 ((m : Nat) : Int)) = ((g + m : Nat) : Int) := by
  have e1 : wrap64 ((m : Nat) : Int) = (m : Int) := by unfold wrap64; omega
  rw [e1]; unfold wrap64; omega
theorem shr_bitN (x : Int) (k : Nat) (h : 0 ≤ x ∧ x ≤ 65535) : bits .and .i64 (x / 2 ^ k) 1 = ((bitN x.toNat k : Nat) : Int) := shr_and x k h
def QuietPost (v : Value) (w : World) (e : Ending) (w' : World) : Prop := e = .returned v ∧ ∃ m, w' = w.drewN m
theorem quiet_more {P : Program} {f : FuncId} {args : Array Value} {w : World} {n : Nat} {v : Value}
    (h : Calls P f args (w.drewN n) (QuietPost v (w.drewN n))) : Calls P f args (w.drewN n) fun e w'' => e = .returned v ∧ ∃ m, w'' = w.drewN m :=
  h.mono fun _ _ ⟨he, m, hm⟩ => ⟨he, n + m, by rw [hm, World.drewN_drewN]⟩

set_option maxHeartbeats 2000000 in
theorem groupOf_any (l : Option Addr) (vs : List Int) (capl j : Nat) (w : World) (hl : Ints w l vs) (hm : vs.length ≤ 3) (hx : ∀ x ∈ vs, 0 ≤ x ∧ x ≤ 255) (hj : j ≤ 4) :
    Calls Try.prog 92 #[.slice l vs.length capl, .int .i64 j] w (QuietPost (.int .i64 (groupK vs j vs.length : Nat)) w) := by
  have HX := hide hx
  have HI := hide hl
  clear hx hl
  go_enter Try.func92, Try.ntmps92
  go_wp2_with fail
  go_loopw [5, 6] (fun s5 s6 wr => ∃ k : Nat, k ≤ vs.length ∧ s6 = .int .i64 k ∧ s5 = .int .i64 (groupK vs j k : Nat) ∧ ∃ m, wr = w.drewN m) (fun _ s _ => vs.length - (intOf s).toNat)
  case atStart => exact ⟨0, Nat.zero_le _, rfl, rfl, 0, rfl⟩
  case round =>
    obtain ⟨k, hk, rfl, rfl, m, hwr⟩ := hrel
    have HW := hide hwr
    have IR : Ints wr l vs := by rw [hwr]; exact HI.out.below (belN w m)
    clear hwr
    have g1 := groupK_lt vs j k
    by_cases hlt : k < vs.length
    · have hr := HX.out _ (mem_of_at hlt)
      have HR : Hid (0 ≤ vs[k] ∧ vs[k] ≤ 65535) := ⟨hr.1, by omega⟩
      have h4 := two_le k 2 (by omega)
      have b1 := bitN_le vs[k].toNat j
      have m1 : 2 ^ k * bitN vs[k].toNat j ≤ 2 ^ k * 1 := Nat.mul_le_mul_left _ b1
      obtain ⟨bb, off, rfl, hbl, hc⟩ := IR (by omega)
      have hck := hc k hlt
      rw [getD_lt hlt] at hck
      have ep := pw_natA k
      have HG : Hid (groupK vs j (k + 1) = groupK vs j k + 2 ^ k * bitN vs[k].toNat j) := by unfold Hid; rw [groupK, getD_lt hlt]
      have HS : Hid (Value.int .i64 (wrap64 (((groupK vs j k : Nat) : Int) + wrap64 (pw (k : Int) * ((bitN vs[k].toNat j : Nat) : Int)))) = .int .i64 ((groupK vs j k + 2 ^ k * bitN vs[k].toNat j : Nat) : Int)) := by
        unfold Hid
        rw [pw_mul, wrap_sum _ _ (by omega)]
      have hbk : bitN vs[k].toNat (j : Int).toNat = bitN vs[k].toNat j := by rw [Int.toNat_natCast]
      clear hc ep hr
      go_wp2
      go_quiet (first | (go_at_call 60; exact quiet_left (powerL_any _ _ (by omega) (by omega))) | (go_at_call 83; exact quiet_left (bitZ_any _ _ _ HR.out (by omega))))
      clear hbk
      go_wp2
      go_roundw
      case rel => exact ⟨k + 1, by omega, by go_num, by rw [HG.out]; exact HS.out, _, by rw [HW.out, World.drewN_drewN]⟩
      case measure => simp only [intOf]; omega
    · obtain rfl : k = vs.length := by omega
      go_wp2
      go_ret
      exact ⟨rfl, _, HW.out⟩

set_option maxHeartbeats 4000000 in
theorem apply_any (n v : Int) (a b l : Option Addr) (cap capb capl : Nat) (zs ws vs : List Int) (w : World) (hi : Ints w a zs) (hj : Ints w b ws) (hl : Ints w l vs) (hm : vs.length ≤ 3) (hx : ∀ x ∈ vs, 0 ≤ x ∧ x ≤ 255) (hn : 1 ≤ n ∧ n ≤ 4) (hw : (ws.length : Int) = n) (hy : ∀ x ∈ ws, 0 ≤ x ∧ x ≤ 255) :
    Calls Try.prog 82 #[.agg #[.int .i64 n, .slice a zs.length cap], .agg #[.int .i64 v, .slice b ws.length capb], .slice l vs.length capl] w fun e w' => e = .returned (.int .i64 (applyK vs ws ws.length : Nat)) ∧ Below w.heap.size w w' := by
  have S0 := SR.new w n v a b zs ws cap capb 25 34 hi hj
  have L0 := hl.below S0.2.2.2.2
  have HS0 := hide (And.intro S0 L0)
  have HX := hide hx
  have HY := hide hy
  have hn1 := hn.1
  have hn4 := hn.2
  have HW := hide hw
  clear hi hj hl hx hy S0 L0 hw hn
  go_enter Try.func82, Try.ntmps82
  go_wp2_with fail
  go_loopw [7, 8] (fun s7 s8 wr => ∃ k : Nat, (k : Int) ≤ n ∧ s8 = .int .i64 k ∧ s7 = .int .i64 (applyK vs ws k : Nat) ∧ (SR w n a zs cap v b ws capb wr ∧ Ints wr l vs)) (fun _ s _ => 4 - (intOf s).toNat)
  case atStart => exact ⟨0, by omega, rfl, rfl, HS0.out⟩
  case round =>
    clear HS0
    obtain ⟨k, hk, rfl, rfl, S1⟩ := hrel
    have HS1 := hide S1
    obtain ⟨⟨⟨_, c0, c1⟩, ⟨_, d0, d1⟩, _, ib, _⟩, il⟩ := S1
    have g1 := applyK_lt vs ws k
    by_cases hlt : (k : Int) < n
    · have hlw : k < ws.length := by have := HW.out; omega
      have hr := HY.out _ (mem_of_at hlw)
      have HR : Hid (0 ≤ ws[k] ∧ ws[k] ≤ 65535) := ⟨hr.1, by omega⟩
      have h4 := two_le k 3 (by omega)
      have HG8 : Hid (0 ≤ ((groupK vs k vs.length : Nat) : Int) ∧ ((groupK vs k vs.length : Nat) : Int) ≤ 8) := by
        have h1 := groupK_lt vs k vs.length
        have h2 := two_le vs.length 3 hm
        unfold Hid; omega
      obtain ⟨bb, off, rfl, hbl, hc⟩ := ib (by omega)
      have hck := hc k hlw
      rw [getD_lt hlw] at hck
      have hbk : bitN ws[k].toNat ((groupK vs k vs.length : Nat) : Int).toNat = bitN ws[k].toNat (groupK vs k vs.length) := by rw [Int.toNat_natCast]
      have HIL := hide il
      clear hc hr il
      cases h1 : (bitN ws[k].toNat (groupK vs k vs.length) == 1)
      · have e1 : (((bitN ws[k].toNat (groupK vs k vs.length) : Nat) : Int) == 1) = false := by rw [beq_one, h1]
        have HG : Hid (applyK vs ws (k + 1) = applyK vs ws k) := by
          have hb := bitN_le ws[k].toNat (groupK vs k vs.length)
          have h0 : bitN ws[k].toNat (groupK vs k vs.length) = 0 := by
            have : ¬ bitN ws[k].toNat (groupK vs k vs.length) = 1 := by simpa using h1
            omega
          unfold Hid; rw [applyK, getD_lt hlw, h0]; rfl
        clear h1
        go_wp2
        go_quiet (first | (go_at_call 92; exact quiet_more (groupOf_any _ vs _ k _ (HIL.out.below (belN _ _)) hm HX.out (by omega))) | (go_at_call 83; exact quiet_left (bitZ_any _ _ _ HR.out HG8.out)))
        clear hbk
        go_wp2
        go_roundw
        case rel => exact ⟨k + 1, by omega, by go_num, by rw [HG.out], HS1.out.1.below (belN _ _), HIL.out.below (belN _ _)⟩
        case measure => simp only [intOf]; omega
      · have e1 : (((bitN ws[k].toNat (groupK vs k vs.length) : Nat) : Int) == 1) = true := by rw [beq_one, h1]
        have HG : Hid (applyK vs ws (k + 1) = applyK vs ws k + 2 ^ k) := by
          have h0 : bitN ws[k].toNat (groupK vs k vs.length) = 1 := by simpa using h1
          unfold Hid; rw [applyK, getD_lt hlw, h0, Nat.mul_one]
        have ep := pw_natA k
        have HEP := hide ep
        have pk1 := pw_pos (k : Int)
        have pk2 := pw_le3 (k : Int) (by omega)
        have hap : ((applyK vs ws k : Nat) : Int) ≤ 8 := by omega
        clear h1 ep
        go_wp2
        go_quiet (first | (go_at_call 92; exact quiet_more (groupOf_any _ vs _ k _ (HIL.out.below (belN _ _)) hm HX.out (by omega))) | (go_at_call 83; exact quiet_left (bitZ_any _ _ _ HR.out HG8.out)))
        clear hbk
        go_wp2_with (go_at_call 60; refine (powerL_any _ _ (by omega) (by omega)).mono ?_; rintro e w' ⟨rfl, rfl⟩)
        go_roundw
        case rel => exact ⟨k + 1, by omega, by go_num, by rw [HG.out, Int.natCast_add, ← HEP.out], HS1.out.1.below (belN _ _), HIL.out.below (belN _ _)⟩
        case measure => simp only [intOf]; omega
    · have hkn : (k : Int) = n := by omega
      have HN : Hid (applyK vs ws k = applyK vs ws ws.length) := by unfold Hid; congr 1; have := HW.out; omega
      clear hkn
      go_wp2
      go_ret
      exact ⟨ret_int (by rw [HN.out]), HS1.out.1.2.2.2.2⟩

theorem shl_bit (x k : Nat) (j : Nat) (hk : k ≤ 4) : wrap64 (((bitN x j : Nat) : Int) * 2 ^ k) = ((2 ^ k * bitN x j : Nat) : Int) := by
  have b := bitN_le x j
  have h := two_le k 4 hk
  have m1 : 2 ^ k * bitN x j ≤ 2 ^ k * 1 := Nat.mul_le_mul_left _ b
  have e : ((bitN x j : Nat) : Int) * 2 ^ k = ((2 ^ k * bitN x j : Nat) : Int) := by rw [Int.natCast_mul, Int.mul_comm]; simp
  rw [e]
  unfold wrap64
  omega
set_option maxHeartbeats 4000000 in
theorem applied_any (v : Int) (b l : Option Addr) (capb capl : Nat) (ws vs : List Int) (w : World) (hj : Ints w b ws) (hl : Ints w l vs) (hm : vs.length ≤ 3) (hx : ∀ x ∈ vs, 0 ≤ x ∧ x ≤ 255) (hw : ws.length ≤ 4) (hy : ∀ x ∈ ws, 0 ≤ x ∧ x ≤ 255) :
    Calls Try.prog 56 #[.agg #[.int .i64 v, .slice b ws.length capb], .slice l vs.length capl] w fun e w' => e = .returned (.int .i64 (applyK vs ws ws.length : Nat)) ∧ Below w.heap.size w w' := by
  have bx := Box.new w v b ws.length capb 34
  have ij := hj.below (bel1 w (.cells #[.int .i64 v, .slice b ws.length capb] 34))
  have il := hl.below (bel1 w (.cells #[.int .i64 v, .slice b ws.length capb] 34))
  have HX := hide hx
  have HY := hide hy
  obtain ⟨_, c0, c1⟩ := bx
  clear hj hl hx hy
  go_enter Try.func56, Try.ntmps56
  go_wp2_with fail
  go_loop [5, 14] (fun s5 s14 => ∃ k : Nat, k ≤ ws.length ∧ s14 = .int .i64 k ∧ s5 = .int .i64 (applyK vs ws k : Nat)) (fun _ s => ws.length - (intOf s).toNat)
  case atStart => exact ⟨0, Nat.zero_le _, rfl, rfl⟩
  case round =>
    obtain ⟨k, hk, rfl, rfl⟩ := hrel
    have g1 := applyK_lt vs ws k
    by_cases hlt : k < ws.length
    · have hr := HY.out _ (mem_of_at hlt)
      have HR : Hid (0 ≤ ws[k] ∧ ws[k] ≤ 65535) := ⟨hr.1, by omega⟩
      have h4 := two_le k 3 (by omega)
      have hg8 : groupK vs k vs.length ≤ 7 := by
        have h1 := groupK_lt vs k vs.length
        have h2 := two_le vs.length 3 hm
        omega
      obtain ⟨bb, off, rfl, hbl, hc⟩ := ij (by omega)
      have hck := hc k hlt
      rw [getD_lt hlt] at hck
      clear hc ij
      go_wp2_with fail
      go_loop [8, 21] (fun s8 s21 => ∃ i : Nat, i ≤ vs.length ∧ s21 = .int .i64 i ∧ s8 = .int .i64 (groupK vs k i : Nat)) (fun _ s => vs.length - (intOf s).toNat)
      case atStart => exact ⟨0, Nat.zero_le _, rfl, rfl⟩
      case round =>
        obtain ⟨i, hi, rfl, rfl⟩ := hrel
        by_cases hil : i < vs.length
        · have hr2 := HX.out _ (mem_of_at hil)
          obtain ⟨lb, lo, rfl, hlb, hlc⟩ := il (by omega)
          have hcl := hlc i hil
          rw [getD_lt hil] at hcl
          clear hlc il
          have HR2 : Hid (0 ≤ vs[i] ∧ vs[i] ≤ 65535) := ⟨hr2.1, by omega⟩
          have g2 := groupK_lt vs k i
          have h5 := two_le i 3 (by omega)
          have b1 := bitN_le vs[i].toNat k
          have m1 : 2 ^ i * bitN vs[i].toNat k ≤ 2 ^ i * 1 := Nat.mul_le_mul_left _ b1
          have HS : Hid (bits .or .i64 ((groupK vs k i : Nat) : Int) (wrap64 (bits .and .i64 (vs[i] / 2 ^ k) 1 * 2 ^ i)) = ((groupK vs k (i + 1) : Nat) : Int)) := by
            unfold Hid
            rw [shr_bitN _ _ HR2.out, shl_bit _ _ _ (by omega), or_gen _ _ (by omega) (by omega), groupK_or, getD_lt hil]
          clear b1 m1 g2 h5 hr2
          go_wp2_with fail
          go_round
          case rel => exact ⟨i + 1, by omega, by go_num, by rw [HS.out]⟩
          case measure => simp only [intOf]; omega
        · obtain rfl : i = vs.length := by omega
          have b1 := bitN_le ws[k].toNat (groupK vs k vs.length)
          have m1 : 2 ^ k * bitN ws[k].toNat (groupK vs k vs.length) ≤ 2 ^ k * 1 := Nat.mul_le_mul_left _ b1
          have HS : Hid (bits .or .i64 ((applyK vs ws k : Nat) : Int) (wrap64 (bits .and .i64 (ws[k] / 2 ^ groupK vs k vs.length) 1 * 2 ^ k)) = ((applyK vs ws (k + 1) : Nat) : Int)) := by
            unfold Hid
            rw [shr_bitN _ _ HR.out, shl_bit _ _ _ (by omega), or_gen _ _ (by omega) (by omega), applyK_or, getD_lt hlt]
          clear b1 m1
          go_wp2_with fail
          go_round
          case rel => exact ⟨k + 1, by omega, by go_num, by rw [HS.out]⟩
          case measure => simp only [intOf]; omega
    · obtain rfl : k = ws.length := by omega
      go_wp2
      go_ret
      exact ⟨rfl, bel1 w _⟩
end Go.Proofs.Ytbmodiobgkmngaa
