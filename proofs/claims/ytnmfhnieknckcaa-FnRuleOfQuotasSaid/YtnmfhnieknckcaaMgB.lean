/- Texts of this seat one behind the other: Apply, Grp, GrC, MtS, MtI, MtM, MtD, MtJ, SmM. Conditions: none. -/
import Derived.Test.YtnmfhnieknckcaaTabS
import Derived.Test.YtnmfhnieknckcaaTabG
import Derived.Test.YtnmfhnieknckcaaMgA
import Derived.Test.YtnmfhnieknckcaaRule
import Derived.Deep.RegionHeld3
import Derived.Deep.QuietTactic
import Derived.BigQuiet

/- Apply: ApplyRule in the model and in the program: which groups win. -/
namespace Go.Proofs.Ytnmfhnieknckcaa
open Go.RowKit Go.Joins

/-- the voters among the first k that answer 1 to an issue -/
def groupK (vs : List Int) (j : Nat) : Nat → Nat
  | 0 => 0
  | k + 1 => groupK vs j k + 2 ^ k * bitN (vs.getD k 0).toNat j
theorem groupK_lt (vs : List Int) (j : Nat) : ∀ k, groupK vs j k < 2 ^ k
  | 0 => by simp [groupK]
  | k + 1 => by
    have h1 := groupK_lt vs j k
    have h2 := bitN_le (vs.getD k 0).toNat j
    have h3 : 2 ^ k * bitN (vs.getD k 0).toNat j ≤ 2 ^ k * 1 := Nat.mul_le_mul_left _ h2
    unfold groupK
    rw [Nat.pow_succ]
    omega
theorem groupK_or (vs : List Int) (j k : Nat) : groupK vs j (k + 1) = groupK vs j k ||| 2 ^ k * bitN (vs.getD k 0).toNat j := by
  rw [groupK, Nat.or_comm, ← Nat.two_pow_add_eq_or_of_lt (groupK_lt vs j k), Nat.add_comm]
/-- the issues among the first k for which the group wins -/
def applyK (vs ws : List Int) : Nat → Nat
  | 0 => 0
  | k + 1 => applyK vs ws k + 2 ^ k * bitN (ws.getD k 0).toNat (groupK vs k vs.length)
theorem applyK_lt (vs ws : List Int) : ∀ k, applyK vs ws k < 2 ^ k
  | 0 => by simp [applyK]
  | k + 1 => by
    have h1 := applyK_lt vs ws k
    have h2 := bitN_le (ws.getD k 0).toNat (groupK vs k vs.length)
    have h3 : 2 ^ k * bitN (ws.getD k 0).toNat (groupK vs k vs.length) ≤ 2 ^ k * 1 := Nat.mul_le_mul_left _ h2
    unfold applyK
    rw [Nat.pow_succ]
    omega
theorem applyK_or (vs ws : List Int) (k : Nat) : applyK vs ws (k + 1) = applyK vs ws k ||| 2 ^ k * bitN (ws.getD k 0).toNat (groupK vs k vs.length) := by
  rw [applyK, Nat.or_comm, ← Nat.two_pow_add_eq_or_of_lt (applyK_lt vs ws k), Nat.add_comm]
theorem pw_natA (k : Nat) : pw (k : Int) = ((2 ^ k : Nat) : Int) := by unfold pw; rw [Int.toNat_natCast]
theorem two_le (k m : Nat) (h : k ≤ m) : 2 ^ k ≤ 2 ^ m := Nat.pow_le_pow_right (by omega) h

theorem pw_mul (k b : Nat) : pw (k : Int) * ((b : Nat) : Int) = ((2 ^ k * b : Nat) : Int) := by rw [pw_natA, Int.natCast_mul]
theorem wrap_sum (g m : Nat) (h : g + m < 1000000) : wrap64 (((g : Nat) : Int) + wrap64 ((m : Nat) : Int)) = ((g + m : Nat) : Int) := by
  have e1 : wrap64 ((m : Nat) : Int) = (m : Int) := by unfold wrap64; omega
  rw [e1]; unfold wrap64; omega
theorem shr_bitN (x : Int) (k : Nat) (h : 0 ≤ x ∧ x ≤ 65535) : bits .and .i64 (x / 2 ^ k) 1 = ((bitN x.toNat k : Nat) : Int) := shr_and x k h
def QuietPost (v : Value) (w : World) (e : Ending) (w' : World) : Prop := e = .returned v ∧ ∃ m, w' = w.drewN m
theorem quiet_more {P : Program} {f : FuncId} {args : Array Value} {w : World} {n : Nat} {v : Value}
    (h : Calls P f args (w.drewN n) (QuietPost v (w.drewN n))) : Calls P f args (w.drewN n) fun e w'' => e = .returned v ∧ ∃ m, w'' = w.drewN m :=
  h.mono fun _ _ ⟨he, m, hm⟩ => ⟨he, n + m, by rw [hm, World.drewN_drewN]⟩

set_option maxHeartbeats 2000000 in
theorem groupOf_any (l : Option Addr) (vs : List Int) (capl j : Nat) (w : World) (hl : Ints w l vs) (hm : vs.length ≤ 3) (hx : ∀ x ∈ vs, 0 ≤ x ∧ x ≤ 255) (hj : j ≤ 4) :
    Calls Try.prog 128 #[.slice l vs.length capl, .int .i64 j] w (QuietPost (.int .i64 (groupK vs j vs.length : Nat)) w) := by
  have HX := hide hx
  have HI := hide hl
  clear hx hl
  go_enter Try.func128, Try.ntmps128
  go_wp2_with fail
  go_loopw [5, 6] (fun s5 s6 wr => ∃ k : Nat, k ≤ vs.length ∧ s6 = .int .i64 k ∧ s5 = .int .i64 (groupK vs j k : Nat) ∧ ∃ m, wr = w.drewN m) (fun _ s _ => vs.length - (intOf s).toNat)
  case atStart => exact ⟨0, Nat.zero_le _, rfl, rfl, 0, rfl⟩
  case round =>
    obtain ⟨k, hk, rfl, rfl, m, hwr⟩ := hrel
    have HW := hide hwr
    have IR : Ints wr l vs := by rw [hwr]; exact HI.out.below (belN w m)
    clear hwr
    have g1 := groupK_lt vs j k
    by_cases hlt : k < vs.length
    · have hr := HX.out _ (mem_of_at hlt)
      have HR : Hid (0 ≤ vs[k] ∧ vs[k] ≤ 65535) := ⟨hr.1, by omega⟩
      have h4 := two_le k 2 (by omega)
      have b1 := bitN_le vs[k].toNat j
      have m1 : 2 ^ k * bitN vs[k].toNat j ≤ 2 ^ k * 1 := Nat.mul_le_mul_left _ b1
      obtain ⟨bb, off, rfl, hbl, hc⟩ := IR (by omega)
      have hck := hc k hlt
      rw [getD_lt hlt] at hck
      have ep := pw_natA k
      have HG : Hid (groupK vs j (k + 1) = groupK vs j k + 2 ^ k * bitN vs[k].toNat j) := by unfold Hid; rw [groupK, getD_lt hlt]
      have HS : Hid (Value.int .i64 (wrap64 (((groupK vs j k : Nat) : Int) + wrap64 (pw (k : Int) * ((bitN vs[k].toNat j : Nat) : Int)))) = .int .i64 ((groupK vs j k + 2 ^ k * bitN vs[k].toNat j : Nat) : Int)) := by
        unfold Hid
        rw [pw_mul, wrap_sum _ _ (by omega)]
      have hbk : bitN vs[k].toNat (j : Int).toNat = bitN vs[k].toNat j := by rw [Int.toNat_natCast]
      clear hc ep hr
      go_wp2
      go_quiet (first | (go_at_call 64; exact quiet_left (powerL_any _ _ (by omega) (by omega))) | (go_at_call 82; exact quiet_left (bitZ_any _ _ _ HR.out (by omega))))
      clear hbk
      go_wp2
      go_roundw
      case rel => exact ⟨k + 1, by omega, by go_num, by rw [HG.out]; exact HS.out, _, by rw [HW.out, World.drewN_drewN]⟩
      case measure => simp only [intOf]; omega
    · obtain rfl : k = vs.length := by omega
      go_wp2
      go_ret
      exact ⟨rfl, _, HW.out⟩

set_option maxHeartbeats 4000000 in
theorem apply_any (n v : Int) (a b l : Option Addr) (cap capb capl : Nat) (zs ws vs : List Int) (w : World) (hi : Ints w a zs) (hj : Ints w b ws) (hl : Ints w l vs) (hm : vs.length ≤ 3) (hx : ∀ x ∈ vs, 0 ≤ x ∧ x ≤ 255) (hn : 1 ≤ n ∧ n ≤ 4) (hw : (ws.length : Int) = n) (hy : ∀ x ∈ ws, 0 ≤ x ∧ x ≤ 255) :
    Calls Try.prog 104 #[.agg #[.int .i64 n, .slice a zs.length cap], .agg #[.int .i64 v, .slice b ws.length capb], .slice l vs.length capl] w fun e w' => e = .returned (.int .i64 (applyK vs ws ws.length : Nat)) ∧ Below w.heap.size w w' := by
  have S0 := SR.new w n v a b zs ws cap capb 25 27 hi hj
  have L0 := hl.below S0.2.2.2.2
  have HS0 := hide (And.intro S0 L0)
  have HX := hide hx
  have HY := hide hy
  have hn1 := hn.1
  have hn4 := hn.2
  have HW := hide hw
  clear hi hj hl hx hy S0 L0 hw hn
  go_enter Try.func104, Try.ntmps104
  go_wp2_with fail
  go_loopw [7, 8] (fun s7 s8 wr => ∃ k : Nat, (k : Int) ≤ n ∧ s8 = .int .i64 k ∧ s7 = .int .i64 (applyK vs ws k : Nat) ∧ (SR w n a zs cap v b ws capb wr ∧ Ints wr l vs)) (fun _ s _ => 4 - (intOf s).toNat)
  case atStart => exact ⟨0, by omega, rfl, rfl, HS0.out⟩
  case round =>
    clear HS0
    obtain ⟨k, hk, rfl, rfl, S1⟩ := hrel
    have HS1 := hide S1
    obtain ⟨⟨⟨_, c0, c1⟩, ⟨_, d0, d1⟩, _, ib, _⟩, il⟩ := S1
    have g1 := applyK_lt vs ws k
    by_cases hlt : (k : Int) < n
    · have hlw : k < ws.length := by have := HW.out; omega
      have hr := HY.out _ (mem_of_at hlw)
      have HR : Hid (0 ≤ ws[k] ∧ ws[k] ≤ 65535) := ⟨hr.1, by omega⟩
      have h4 := two_le k 3 (by omega)
      have HG8 : Hid (0 ≤ ((groupK vs k vs.length : Nat) : Int) ∧ ((groupK vs k vs.length : Nat) : Int) ≤ 8) := by
        have h1 := groupK_lt vs k vs.length
        have h2 := two_le vs.length 3 hm
        unfold Hid; omega
      obtain ⟨bb, off, rfl, hbl, hc⟩ := ib (by omega)
      have hck := hc k hlw
      rw [getD_lt hlw] at hck
      have hbk : bitN ws[k].toNat ((groupK vs k vs.length : Nat) : Int).toNat = bitN ws[k].toNat (groupK vs k vs.length) := by rw [Int.toNat_natCast]
      have HIL := hide il
      clear hc hr il
      cases h1 : (bitN ws[k].toNat (groupK vs k vs.length) == 1)
      · have e1 : (((bitN ws[k].toNat (groupK vs k vs.length) : Nat) : Int) == 1) = false := by rw [beq_one, h1]
        have HG : Hid (applyK vs ws (k + 1) = applyK vs ws k) := by
          have hb := bitN_le ws[k].toNat (groupK vs k vs.length)
          have h0 : bitN ws[k].toNat (groupK vs k vs.length) = 0 := by
            have : ¬ bitN ws[k].toNat (groupK vs k vs.length) = 1 := by simpa using h1
            omega
          unfold Hid; rw [applyK, getD_lt hlw, h0]; rfl
        clear h1
        go_wp2
        go_quiet (first | (go_at_call 128; exact quiet_more (groupOf_any _ vs _ k _ (HIL.out.below (belN _ _)) hm HX.out (by omega))) | (go_at_call 82; exact quiet_left (bitZ_any _ _ _ HR.out HG8.out)))
        clear hbk
        go_wp2
        go_roundw
        case rel => exact ⟨k + 1, by omega, by go_num, by rw [HG.out], HS1.out.1.below (belN _ _), HIL.out.below (belN _ _)⟩
        case measure => simp only [intOf]; omega
      · have e1 : (((bitN ws[k].toNat (groupK vs k vs.length) : Nat) : Int) == 1) = true := by rw [beq_one, h1]
        have HG : Hid (applyK vs ws (k + 1) = applyK vs ws k + 2 ^ k) := by
          have h0 : bitN ws[k].toNat (groupK vs k vs.length) = 1 := by simpa using h1
          unfold Hid; rw [applyK, getD_lt hlw, h0, Nat.mul_one]
        have ep := pw_natA k
        have HEP := hide ep
        have pk1 := pw_pos (k : Int)
        have pk2 := pw_le3 (k : Int) (by omega)
        have hap : ((applyK vs ws k : Nat) : Int) ≤ 8 := by omega
        clear h1 ep
        go_wp2
        go_quiet (first | (go_at_call 128; exact quiet_more (groupOf_any _ vs _ k _ (HIL.out.below (belN _ _)) hm HX.out (by omega))) | (go_at_call 82; exact quiet_left (bitZ_any _ _ _ HR.out HG8.out)))
        clear hbk
        go_wp2_with (go_at_call 64; refine (powerL_any _ _ (by omega) (by omega)).mono ?_; rintro e w' ⟨rfl, rfl⟩)
        go_roundw
        case rel => exact ⟨k + 1, by omega, by go_num, by rw [HG.out, Int.natCast_add, ← HEP.out], HS1.out.1.below (belN _ _), HIL.out.below (belN _ _)⟩
        case measure => simp only [intOf]; omega
    · have hkn : (k : Int) = n := by omega
      have HN : Hid (applyK vs ws k = applyK vs ws ws.length) := by unfold Hid; congr 1; have := HW.out; omega
      clear hkn
      go_wp2
      go_ret
      exact ⟨ret_int (by rw [HN.out]), HS1.out.1.2.2.2.2⟩

theorem shl_bit (x k : Nat) (j : Nat) (hk : k ≤ 4) : wrap64 (((bitN x j : Nat) : Int) * 2 ^ k) = ((2 ^ k * bitN x j : Nat) : Int) := by
  have b := bitN_le x j
  have h := two_le k 4 hk
  have m1 : 2 ^ k * bitN x j ≤ 2 ^ k * 1 := Nat.mul_le_mul_left _ b
  have e : ((bitN x j : Nat) : Int) * 2 ^ k = ((2 ^ k * bitN x j : Nat) : Int) := by rw [Int.natCast_mul, Int.mul_comm]; simp
  rw [e]
  unfold wrap64
  omega
set_option maxHeartbeats 4000000 in
theorem applied_any (v : Int) (b l : Option Addr) (capb capl : Nat) (ws vs : List Int) (w : World) (hj : Ints w b ws) (hl : Ints w l vs) (hm : vs.length ≤ 3) (hx : ∀ x ∈ vs, 0 ≤ x ∧ x ≤ 255) (hw : ws.length ≤ 4) (hy : ∀ x ∈ ws, 0 ≤ x ∧ x ≤ 255) :
    Calls Try.prog 96 #[.agg #[.int .i64 v, .slice b ws.length capb], .slice l vs.length capl] w fun e w' => e = .returned (.int .i64 (applyK vs ws ws.length : Nat)) ∧ Below w.heap.size w w' := by
  have bx := Box.new w v b ws.length capb 27
  have ij := hj.below (bel1 w (.cells #[.int .i64 v, .slice b ws.length capb] 27))
  have il := hl.below (bel1 w (.cells #[.int .i64 v, .slice b ws.length capb] 27))
  have HX := hide hx
  have HY := hide hy
  obtain ⟨_, c0, c1⟩ := bx
  clear hj hl hx hy
  go_enter Try.func96, Try.ntmps96
  go_wp2_with fail
  go_loop [5, 14] (fun s5 s14 => ∃ k : Nat, k ≤ ws.length ∧ s14 = .int .i64 k ∧ s5 = .int .i64 (applyK vs ws k : Nat)) (fun _ s => ws.length - (intOf s).toNat)
  case atStart => exact ⟨0, Nat.zero_le _, rfl, rfl⟩
  case round =>
    obtain ⟨k, hk, rfl, rfl⟩ := hrel
    have g1 := applyK_lt vs ws k
    by_cases hlt : k < ws.length
    · have hr := HY.out _ (mem_of_at hlt)
      have HR : Hid (0 ≤ ws[k] ∧ ws[k] ≤ 65535) := ⟨hr.1, by omega⟩
      have h4 := two_le k 3 (by omega)
      have hg8 : groupK vs k vs.length ≤ 7 := by
        have h1 := groupK_lt vs k vs.length
        have h2 := two_le vs.length 3 hm
        omega
      obtain ⟨bb, off, rfl, hbl, hc⟩ := ij (by omega)
      have hck := hc k hlt
      rw [getD_lt hlt] at hck
      clear hc ij
      go_wp2_with fail
      go_loop [8, 21] (fun s8 s21 => ∃ i : Nat, i ≤ vs.length ∧ s21 = .int .i64 i ∧ s8 = .int .i64 (groupK vs k i : Nat)) (fun _ s => vs.length - (intOf s).toNat)
      case atStart => exact ⟨0, Nat.zero_le _, rfl, rfl⟩
      case round =>
        obtain ⟨i, hi, rfl, rfl⟩ := hrel
        by_cases hil : i < vs.length
        · have hr2 := HX.out _ (mem_of_at hil)
          obtain ⟨lb, lo, rfl, hlb, hlc⟩ := il (by omega)
          have hcl := hlc i hil
          rw [getD_lt hil] at hcl
          clear hlc il
          have HR2 : Hid (0 ≤ vs[i] ∧ vs[i] ≤ 65535) := ⟨hr2.1, by omega⟩
          have g2 := groupK_lt vs k i
          have h5 := two_le i 3 (by omega)
          have b1 := bitN_le vs[i].toNat k
          have m1 : 2 ^ i * bitN vs[i].toNat k ≤ 2 ^ i * 1 := Nat.mul_le_mul_left _ b1
          have HS : Hid (bits .or .i64 ((groupK vs k i : Nat) : Int) (wrap64 (bits .and .i64 (vs[i] / 2 ^ k) 1 * 2 ^ i)) = ((groupK vs k (i + 1) : Nat) : Int)) := by
            unfold Hid
            rw [shr_bitN _ _ HR2.out, shl_bit _ _ _ (by omega), or_gen _ _ (by omega) (by omega), groupK_or, getD_lt hil]
          clear b1 m1 g2 h5 hr2
          go_wp2_with fail
          go_round
          case rel => exact ⟨i + 1, by omega, by go_num, by rw [HS.out]⟩
          case measure => simp only [intOf]; omega
        · obtain rfl : i = vs.length := by omega
          have b1 := bitN_le ws[k].toNat (groupK vs k vs.length)
          have m1 : 2 ^ k * bitN ws[k].toNat (groupK vs k vs.length) ≤ 2 ^ k * 1 := Nat.mul_le_mul_left _ b1
          have HS : Hid (bits .or .i64 ((applyK vs ws k : Nat) : Int) (wrap64 (bits .and .i64 (ws[k] / 2 ^ groupK vs k vs.length) 1 * 2 ^ k)) = ((applyK vs ws (k + 1) : Nat) : Int)) := by
            unfold Hid
            rw [shr_bitN _ _ HR.out, shl_bit _ _ _ (by omega), or_gen _ _ (by omega) (by omega), applyK_or, getD_lt hlt]
          clear b1 m1
          go_wp2_with fail
          go_round
          case rel => exact ⟨k + 1, by omega, by go_num, by rw [HS.out]⟩
          case measure => simp only [intOf]; omega
    · obtain rfl : k = ws.length := by omega
      go_wp2
      go_ret
      exact ⟨rfl, bel1 w _⟩
end Go.Proofs.Ytnmfhnieknckcaa

/- Grp: What two sets of groups have in common, group by group, in the program. -/
namespace Go.Proofs.Ytnmfhnieknckcaa
open Go.RowKit Go.Joins

/-- the groups that lie in a group of each, so far -/
def crJ (f h : Nat → Bool) (i j q : Nat) : Bool := (List.range j).any fun y => f i && (h y && (i &&& y == q))
def crI (f h : Nat → Bool) (i q : Nat) : Bool := (List.range i).any fun x => crJ f h x 8 q
def crX (f h : Nat → Bool) (i j q : Nat) : Bool := crI f h i q || crJ f h i j q
/-- the common groups of two sets -/
def crF (f h : Nat → Bool) (q : Nat) : Bool := crI f h 8 q
theorem crJ_succ (f h : Nat → Bool) (i j q : Nat) : crJ f h i (j + 1) q = (crJ f h i j q || (f i && (h j && (i &&& j == q)))) := by
  unfold crJ; rw [List.range_succ, List.any_append]; simp
theorem crX_zero (f h : Nat → Bool) (i : Nat) : crX f h i 0 = crI f h i := by
  funext q; unfold crX crJ; simp
theorem crX_end (f h : Nat → Bool) (i : Nat) : crI f h (i + 1) = crX f h i 8 := by
  funext q; unfold crX crI; rw [List.range_succ, List.any_append]; simp
theorem crX_no {f h : Nat → Bool} {i j : Nat} (e : (f i && h j) = false) : crX f h i (j + 1) = crX f h i j := by
  funext q
  unfold crX
  rw [crJ_succ, ← Bool.and_assoc, e]
  simp
theorem crX_yes {f h : Nat → Bool} {i j : Nat} (e1 : f i = true) (e2 : h j = true) : crX f h i (j + 1) = fun q => crX f h i j q || (i &&& j == q) := by
  funext q
  unfold crX
  rw [crJ_succ, e1, e2, Bool.or_assoc]
  simp
theorem b8_set (F : Nat → Bool) (k : Nat) (hk : k < 8) : #[Value.bool (F 0), Value.bool (F 1), Value.bool (F 2), Value.bool (F 3), Value.bool (F 4), Value.bool (F 5), Value.bool (F 6), Value.bool (F 7)].setIfInBounds k (.bool true) = #[Value.bool ((fun q => F q || (k == q)) 0), Value.bool ((fun q => F q || (k == q)) 1), Value.bool ((fun q => F q || (k == q)) 2), Value.bool ((fun q => F q || (k == q)) 3), Value.bool ((fun q => F q || (k == q)) 4), Value.bool ((fun q => F q || (k == q)) 5), Value.bool ((fun q => F q || (k == q)) 6), Value.bool ((fun q => F q || (k == q)) 7)] := by
  rcases (show k = 0 ∨ k = 1 ∨ k = 2 ∨ k = 3 ∨ k = 4 ∨ k = 5 ∨ k = 6 ∨ k = 7 from by omega) with rfl | rfl | rfl | rfl | rfl | rfl | rfl | rfl <;> simp
/-- a set of groups in a block of its own -/
def GB (w : World) (g : Nat) (F : Nat → Bool) : Prop := w.heap[g]? = some (.cells #[Value.bool (F 0), Value.bool (F 1), Value.bool (F 2), Value.bool (F 3), Value.bool (F 4), Value.bool (F 5), Value.bool (F 6), Value.bool (F 7)] 69 (0, 0))
theorem GB.below {w w' : World} {g : Nat} {F : Nat → Bool} (h : GB w g F) (hb : Below w.heap.size w w') : GB w' g F := blk_below h hb
theorem GB.put {w : World} {g k : Nat} {F : Nat → Bool} (h : GB w g F) (hk : k < 8) : GB (w.setCell ⟨g, k, none⟩ (.bool true)) g (fun q => F q || (k == q)) := by
  unfold GB
  rw [block_setCell h, b8_set F k hk]
theorem GB.at {w : World} {g k : Nat} {F : Nat → Bool} (h : GB w g F) (hk : k < 8) : w.cell? ⟨g, k, none⟩ = some (.bool (F k)) ∧ w.frozen? ⟨g, k, none⟩ = false := by
  refine ⟨(Tab.of (f := F) h).at k hk, free_blk h k⟩
set_option maxHeartbeats 4000000 in
set_option maxRecDepth 100000 in
theorem crossed_any (f h : Nat → Bool) (w : World) :
    Calls Try.prog 112 #[.agg #[Value.bool (f 0), Value.bool (f 1), Value.bool (f 2), Value.bool (f 3), Value.bool (f 4), Value.bool (f 5), Value.bool (f 6), Value.bool (f 7)], .agg #[Value.bool (h 0), Value.bool (h 1), Value.bool (h 2), Value.bool (h 3), Value.bool (h 4), Value.bool (h 5), Value.bool (h 6), Value.bool (h 7)]] w fun e w' => e = .returned (.agg #[Value.bool ((crF f h) 0), Value.bool ((crF f h) 1), Value.bool ((crF f h) 2), Value.bool ((crF f h) 3), Value.bool ((crF f h) 4), Value.bool ((crF f h) 5), Value.bool ((crF f h) 6), Value.bool ((crF f h) 7)]) ∧ Below w.heap.size w w' := by
  have h0 := new_blk w #[Value.bool (f 0), Value.bool (f 1), Value.bool (f 2), Value.bool (f 3), Value.bool (f 4), Value.bool (f 5), Value.bool (f 6), Value.bool (f 7)] 69
  have h1 := new_blk (w.alloc (.cells #[Value.bool (f 0), Value.bool (f 1), Value.bool (f 2), Value.bool (f 3), Value.bool (f 4), Value.bool (f 5), Value.bool (f 6), Value.bool (f 7)] 69)) #[Value.bool (h 0), Value.bool (h 1), Value.bool (h 2), Value.bool (h 3), Value.bool (h 4), Value.bool (h 5), Value.bool (h 6), Value.bool (h 7)] 69
  have h2 := new_blk ((w.alloc (.cells #[Value.bool (f 0), Value.bool (f 1), Value.bool (f 2), Value.bool (f 3), Value.bool (f 4), Value.bool (f 5), Value.bool (f 6), Value.bool (f 7)] 69)).alloc (.cells #[Value.bool (h 0), Value.bool (h 1), Value.bool (h 2), Value.bool (h 3), Value.bool (h 4), Value.bool (h 5), Value.bool (h 6), Value.bool (h 7)] 69)) #[.bool false, .bool false, .bool false, .bool false, .bool false, .bool false, .bool false, .bool false] 69
  have h3 := new_blk (((w.alloc (.cells #[Value.bool (f 0), Value.bool (f 1), Value.bool (f 2), Value.bool (f 3), Value.bool (f 4), Value.bool (f 5), Value.bool (f 6), Value.bool (f 7)] 69)).alloc (.cells #[Value.bool (h 0), Value.bool (h 1), Value.bool (h 2), Value.bool (h 3), Value.bool (h 4), Value.bool (h 5), Value.bool (h 6), Value.bool (h 7)] 69)).alloc (.cells #[.bool false, .bool false, .bool false, .bool false, .bool false, .bool false, .bool false, .bool false] 69)) #[.bool false, .bool false, .bool false, .bool false, .bool false, .bool false, .bool false, .bool false] 69
  simp only [World.size_alloc] at h1 h2 h3
  have b3 := bel1 (((w.alloc (.cells #[Value.bool (f 0), Value.bool (f 1), Value.bool (f 2), Value.bool (f 3), Value.bool (f 4), Value.bool (f 5), Value.bool (f 6), Value.bool (f 7)] 69)).alloc (.cells #[Value.bool (h 0), Value.bool (h 1), Value.bool (h 2), Value.bool (h 3), Value.bool (h 4), Value.bool (h 5), Value.bool (h 6), Value.bool (h 7)] 69)).alloc (.cells #[.bool false, .bool false, .bool false, .bool false, .bool false, .bool false, .bool false, .bool false] 69)) (.cells #[.bool false, .bool false, .bool false, .bool false, .bool false, .bool false, .bool false, .bool false] 69)
  have b2 := bnext (bel1 ((w.alloc (.cells #[Value.bool (f 0), Value.bool (f 1), Value.bool (f 2), Value.bool (f 3), Value.bool (f 4), Value.bool (f 5), Value.bool (f 6), Value.bool (f 7)] 69)).alloc (.cells #[Value.bool (h 0), Value.bool (h 1), Value.bool (h 2), Value.bool (h 3), Value.bool (h 4), Value.bool (h 5), Value.bool (h 6), Value.bool (h 7)] 69)) (.cells #[.bool false, .bool false, .bool false, .bool false, .bool false, .bool false, .bool false, .bool false] 69)) b3
  have b1 := bnext (bel1 (w.alloc (.cells #[Value.bool (f 0), Value.bool (f 1), Value.bool (f 2), Value.bool (f 3), Value.bool (f 4), Value.bool (f 5), Value.bool (f 6), Value.bool (f 7)] 69)) (.cells #[Value.bool (h 0), Value.bool (h 1), Value.bool (h 2), Value.bool (h 3), Value.bool (h 4), Value.bool (h 5), Value.bool (h 6), Value.bool (h 7)] 69)) b2
  have b0 := bnext (bel1 w (.cells #[Value.bool (f 0), Value.bool (f 1), Value.bool (f 2), Value.bool (f 3), Value.bool (f 4), Value.bool (f 5), Value.bool (f 6), Value.bool (f 7)] 69)) b1
  have g0 := blk_below h0 b1
  have g1 := blk_below h1 b2
  have g2 := blk_below h2 b3
  obtain ⟨_, c0, c1, c2, c3, c4, c5, c6, c7⟩ := Tab.of (f := f) g0
  have G1 : Hid (GB _ (w.heap.size + 1) h) := g1
  have G2 := hide g2
  have G3 : Hid (GB _ (w.heap.size + 1 + 1 + 1) (crI f h 0)) := h3
  have HB := hide b0
  clear h0 h1 h2 h3 b3 b2 b1 b0 g0 g1 g2
  go_enter Try.func112, Try.ntmps112
  go_wp2_with fail
  clear c0 c1 c2 c3 c4 c5 c6 c7
  go_loopw [11] (fun i wr => ∃ x : Nat, x ≤ 8 ∧ i = .int .i64 x ∧ GB wr (w.heap.size + 1) h ∧ wr.heap[w.heap.size + 1 + 1]? = some (.cells #[.bool false, .bool false, .bool false, .bool false, .bool false, .bool false, .bool false, .bool false] 69 (0, 0)) ∧ GB wr (w.heap.size + 1 + 1 + 1) (crI f h x) ∧ Below w.heap.size w wr) (fun i _ => 8 - (intOf i).toNat)
  case atStart => exact ⟨0, Nat.zero_le _, rfl, G1.out, G2.out, G3.out, HB.out⟩
  case round =>
    clear G1 G2 G3 HB
    obtain ⟨x, hx, rfl, g1, g2, g3, hb⟩ := hrel
    by_cases hxt : x < 8
    · have hi := idx_at f x hxt
      obtain ⟨_, c0, c1, c2, c3, c4, c5, c6, c7⟩ := Tab.of (f := h) g1
      obtain ⟨fx, hfx⟩ : ∃ fx, f x = fx := ⟨_, rfl⟩
      rw [hfx] at hi
      have HFX := hide hfx
      have G1 := hide g1
      have G2 := hide g2
      have G3 : Hid (GB wr (w.heap.size + 1 + 1 + 1) (crX f h x 0)) := by rw [crX_zero]; exact g3
      have HB := hide hb
      clear g1 g2 g3 hb hfx
      go_wp2_with fail
      clear c0 c1 c2 c3 c4 c5 c6 c7 hi
      go_loopw [16] (fun i wr => ∃ y : Nat, y ≤ 8 ∧ i = .int .i64 y ∧ GB wr (w.heap.size + 1) h ∧ wr.heap[w.heap.size + 1 + 1]? = some (.cells #[.bool false, .bool false, .bool false, .bool false, .bool false, .bool false, .bool false, .bool false] 69 (0, 0)) ∧ GB wr (w.heap.size + 1 + 1 + 1) (crX f h x y) ∧ Below w.heap.size w wr) (fun i _ => 8 - (intOf i).toNat)
      case atStart => exact ⟨0, Nat.zero_le _, rfl, G1.out, G2.out, G3.out, HB.out⟩
      case round =>
        clear G1 G2 G3 HB
        obtain ⟨y, hy, rfl, g1, g2, g3, hb⟩ := hrel
        have G1 := hide g1
        have G2 := hide g2
        have G3 := hide g3
        have HB := hide hb
        by_cases hyt : y < 8
        · have hi := idx_at h y hyt
          obtain ⟨hy', hhy⟩ : ∃ hy', h y = hy' := ⟨_, rfl⟩
          rw [hhy] at hi
          have HHY := hide hhy
          have hand := and_gen x y (by omega) (by omega)
          have hlt8 : x &&& y < 8 := Nat.lt_of_le_of_lt Nat.and_le_left hxt
          obtain ⟨q, hq⟩ : ∃ q, x &&& y = q := ⟨_, rfl⟩
          rw [hq] at hand hlt8
          obtain ⟨u0, u1⟩ := g3.at hlt8
          have HQ := hide hq
          clear g1 g2 g3 hb hhy hq
          cases fx with
          | false =>
            go_wp2_with fail
            go_roundw
            case rel => exact ⟨y + 1, by omega, by go_num, G1.out, G2.out, by rw [crX_no (by rw [HFX.out]; rfl)]; exact G3.out, HB.out⟩
            case measure => simp only [intOf]; omega
          | true =>
            cases hy' with
            | false =>
              go_wp2_with fail
              go_roundw
              case rel => exact ⟨y + 1, by omega, by go_num, G1.out, G2.out, by rw [crX_no (by rw [HHY.out]; simp)]; exact G3.out, HB.out⟩
              case measure => simp only [intOf]; omega
            | true =>
              go_wp2_with fail
              go_roundw
              case rel => exact ⟨y + 1, by omega, by go_num, (Below.heap_setCell _ ⟨w.heap.size + 1 + 1 + 1, q, none⟩ _ _ (show w.heap.size + 1 ≠ w.heap.size + 1 + 1 + 1 by omega)).trans G1.out, (Below.heap_setCell _ ⟨w.heap.size + 1 + 1 + 1, q, none⟩ _ _ (show w.heap.size + 1 + 1 ≠ w.heap.size + 1 + 1 + 1 by omega)).trans G2.out, by rw [crX_yes HFX.out HHY.out, HQ.out]; exact G3.out.put hlt8, HB.out.setCell (p := ⟨w.heap.size + 1 + 1 + 1, q, none⟩) (by show w.heap.size ≤ w.heap.size + 1 + 1 + 1; omega) _⟩
              case measure => simp only [intOf]; omega
        · obtain rfl : y = 8 := by omega
          clear g1 g2 g3 hb
          go_wp2_with fail
          go_roundw
          case rel => exact ⟨x + 1, by omega, by go_num, G1.out, G2.out, by rw [crX_end]; exact G3.out, HB.out⟩
          case measure => simp only [intOf]; omega
    · obtain rfl : x = 8 := by omega
      obtain ⟨_, c0, c1, c2, c3, c4, c5, c6, c7⟩ := Tab.of (f := crI f h 8) g3
      have r0 := cell_of_block g2 0
      have r1 := cell_of_block g2 1
      have r2 := cell_of_block g2 2
      have r3 := cell_of_block g2 3
      have r4 := cell_of_block g2 4
      have r5 := cell_of_block g2 5
      have r6 := cell_of_block g2 6
      have r7 := cell_of_block g2 7
      have fz := free_blk g2
      have HR := hide g2
      have HB := hide hb
      clear g1 g2 g3 hb
      simp at r0 r1 r2 r3 r4 r5 r6 r7
      go_wp2
      exact bodyPost_ret (v := .agg #[Value.bool ((crF f h) 0), Value.bool ((crF f h) 1), Value.bool ((crF f h) 2), Value.bool ((crF f h) 3), Value.bool ((crF f h) 4), Value.bool ((crF f h) 5), Value.bool ((crF f h) 6), Value.bool ((crF f h) 7)]) (ret_set (p := 4) rfl _ _ (w.heap.size + 1 + 1) _ _ _ _ _ _ _ _ _ rfl (set8_blk HR.out _ _ _ _ _ _ _ _)) rfl ⟨rfl, set8_below HB.out (by omega) _ _ _ _ _ _ _ _⟩
end Go.Proofs.Ytnmfhnieknckcaa

/- GrC: The groups that agree on the answers of a part, in the program: commonGroups. -/
namespace Go.Proofs.Ytnmfhnieknckcaa
open Go.RowKit Go.Joins

/-- the groups that win for the answer of a part to an issue -/
def wnF (v : Int) (ws : List Int) (m : Nat × Nat) (j : Nat) : Nat → Bool := if bitN m.2 j = 0 then upT v (oppF v (upT v (winF (ws.getD j 0)))) else upT v (winF (ws.getD j 0))
/-- what groups that win for the answers of a part to the first issues have in common -/
def cgK (v : Int) (ws : List Int) (m : Nat × Nat) : Nat → Nat → Bool
  | 0 => fun q => false || ((pw v - 1).toNat == q)
  | j + 1 => if bitN m.1 j = 0 then cgK v ws m j else crF (cgK v ws m j) (wnF v ws m j)
theorem cgK_no {v : Int} {ws : List Int} {m : Nat × Nat} {j : Nat} (h : bitN m.1 j = 0) : cgK v ws m (j + 1) = cgK v ws m j := by rw [cgK, if_pos h]
theorem cgK_yes {v : Int} {ws : List Int} {m : Nat × Nat} {j : Nat} (h : bitN m.1 j = 1) : cgK v ws m (j + 1) = crF (cgK v ws m j) (wnF v ws m j) := by rw [cgK, if_neg (by rw [h]; decide)]
theorem wnF_opp {v : Int} {ws : List Int} {m : Nat × Nat} {j : Nat} (h : bitN m.2 j = 0) : wnF v ws m j = upT v (oppF v (upT v (winF (ws.getD j 0)))) := by rw [wnF, if_pos h]
theorem wnF_own {v : Int} {ws : List Int} {m : Nat × Nat} {j : Nat} (h : bitN m.2 j = 1) : wnF v ws m j = upT v (winF (ws.getD j 0)) := by rw [wnF, if_neg (by rw [h]; decide)]
theorem setE (E : Nat) (hE : E < 8) : ([.bool false, .bool false, .bool false, .bool false, .bool false, .bool false, .bool false, .bool false].set E (.bool true) : List Value).toArray = #[Value.bool ((fun q => false || (E == q)) 0), Value.bool ((fun q => false || (E == q)) 1), Value.bool ((fun q => false || (E == q)) 2), Value.bool ((fun q => false || (E == q)) 3), Value.bool ((fun q => false || (E == q)) 4), Value.bool ((fun q => false || (E == q)) 5), Value.bool ((fun q => false || (E == q)) 6), Value.bool ((fun q => false || (E == q)) 7)] := by
  rcases (show E = 0 ∨ E = 1 ∨ E = 2 ∨ E = 3 ∨ E = 4 ∨ E = 5 ∨ E = 6 ∨ E = 7 from by omega) with rfl | rfl | rfl | rfl | rfl | rfl | rfl | rfl <;> simp
theorem GB.cells {w : World} {g : Nat} {F : Nat → Bool} (h : GB w g F) : Tab w g F := Tab.of (f := F) h
set_option maxHeartbeats 4000000 in
set_option maxRecDepth 100000 in
theorem commonGroups_any (v : Int) (b : Option Addr) (ws : List Int) (capb : Nat) (mc mb : Nat) (w : World) (hv : 1 ≤ v ∧ v ≤ 3) (hi : Ints w b ws) (hl : ws.length ≤ 4) (hr : ∀ x ∈ ws, 0 ≤ x ∧ x ≤ 255) (hm : mc < 16 ∧ mb < 16) :
    Calls Try.prog 61 #[.agg #[.int .i64 v, .slice b ws.length capb], .agg #[.int .i64 (mc : Int), .int .i64 (mb : Int)]] w fun e w' => e = .returned (.agg #[Value.bool ((cgK v ws (mc, mb) ws.length) 0), Value.bool ((cgK v ws (mc, mb) ws.length) 1), Value.bool ((cgK v ws (mc, mb) ws.length) 2), Value.bool ((cgK v ws (mc, mb) ws.length) 3), Value.bool ((cgK v ws (mc, mb) ws.length) 4), Value.bool ((cgK v ws (mc, mb) ws.length) 5), Value.bool ((cgK v ws (mc, mb) ws.length) 6), Value.bool ((cgK v ws (mc, mb) ws.length) 7)]) ∧ Below w.heap.size w w' := by
  have h0 := new_blk w #[.int .i64 v, .slice b ws.length capb] 27
  have h1 := new_blk (w.alloc (.cells #[.int .i64 v, .slice b ws.length capb] 27)) #[.int .i64 (mc : Int), .int .i64 (mb : Int)] 67
  have h2 := new_blk ((w.alloc (.cells #[.int .i64 v, .slice b ws.length capb] 27)).alloc (.cells #[.int .i64 (mc : Int), .int .i64 (mb : Int)] 67)) #[.bool false, .bool false, .bool false, .bool false, .bool false, .bool false, .bool false, .bool false] 69
  have h3 := new_blk (((w.alloc (.cells #[.int .i64 v, .slice b ws.length capb] 27)).alloc (.cells #[.int .i64 (mc : Int), .int .i64 (mb : Int)] 67)).alloc (.cells #[.bool false, .bool false, .bool false, .bool false, .bool false, .bool false, .bool false, .bool false] 69)) #[.bool false, .bool false, .bool false, .bool false, .bool false, .bool false, .bool false, .bool false] 69
  simp only [World.size_alloc] at h1 h2 h3
  have b3 := bel1 (((w.alloc (.cells #[.int .i64 v, .slice b ws.length capb] 27)).alloc (.cells #[.int .i64 (mc : Int), .int .i64 (mb : Int)] 67)).alloc (.cells #[.bool false, .bool false, .bool false, .bool false, .bool false, .bool false, .bool false, .bool false] 69)) (.cells #[.bool false, .bool false, .bool false, .bool false, .bool false, .bool false, .bool false, .bool false] 69)
  have b2 := bnext (bel1 ((w.alloc (.cells #[.int .i64 v, .slice b ws.length capb] 27)).alloc (.cells #[.int .i64 (mc : Int), .int .i64 (mb : Int)] 67)) (.cells #[.bool false, .bool false, .bool false, .bool false, .bool false, .bool false, .bool false, .bool false] 69)) b3
  have b1 := bnext (bel1 (w.alloc (.cells #[.int .i64 v, .slice b ws.length capb] 27)) (.cells #[.int .i64 (mc : Int), .int .i64 (mb : Int)] 67)) b2
  have b0 := bnext (bel1 w (.cells #[.int .i64 v, .slice b ws.length capb] 27)) b1
  have g0 := blk_below h0 b1
  have g1 := blk_below h1 b2
  have g2 := blk_below h2 b3
  have G3 : GB _ (w.heap.size + 1 + 1 + 1) (fun _ => false) := h3
  have i4 := hi.below b0
  have hW4 : (((((w.alloc (.cells #[.int .i64 v, .slice b ws.length capb] 27)).alloc (.cells #[.int .i64 (mc : Int), .int .i64 (mb : Int)] 67)).alloc (.cells #[.bool false, .bool false, .bool false, .bool false, .bool false, .bool false, .bool false, .bool false] 69)).alloc (.cells #[.bool false, .bool false, .bool false, .bool false, .bool false, .bool false, .bool false, .bool false] 69))).heap.size = w.heap.size + 1 + 1 + 1 + 1 := by simp
  have HV := hide (isVoters hv)
  have p1 := pw_pos v
  have p2 := pw_le3 v hv.2
  have hE : 0 ≤ pw v - 1 ∧ pw v - 1 < 8 := by omega
  obtain ⟨E, hEE⟩ : ∃ E : Nat, pw v - 1 = (E : Int) := ⟨(pw v - 1).toNat, by omega⟩
  have hE8 : E < 8 := by omega
  obtain ⟨u0, u1⟩ := G3.at hE8
  obtain ⟨c0, c1⟩ := And.intro (cell_of_block g0 0) (cell_of_block g0 1)
  clear h3 b3 b2 b1 b0 g0 g1 g2 G3
  go_enter Try.func61, Try.ntmps61
  go_wp2_with (go_at_call 110; refine (everybody_any _ _ HV.out).mono ?_; rintro e w' ⟨rfl, rfl⟩; rw [hEE])
  rw [setE E hE8]
  obtain ⟨W4, hW⟩ : ∃ W4 : World, W4 = ((((w.alloc (.cells #[.int .i64 v, .slice b ws.length capb] 27)).alloc (.cells #[.int .i64 (mc : Int), .int .i64 (mb : Int)] 67)).alloc (.cells #[.bool false, .bool false, .bool false, .bool false, .bool false, .bool false, .bool false, .bool false] 69)).alloc (.cells #[Value.bool ((fun q => false || (E == q)) 0), Value.bool ((fun q => false || (E == q)) 1), Value.bool ((fun q => false || (E == q)) 2), Value.bool ((fun q => false || (E == q)) 3), Value.bool ((fun q => false || (E == q)) 4), Value.bool ((fun q => false || (E == q)) 5), Value.bool ((fun q => false || (E == q)) 6), Value.bool ((fun q => false || (E == q)) 7)] 69)) := ⟨_, rfl⟩
  have y3 := bel1 (((w.alloc (.cells #[.int .i64 v, .slice b ws.length capb] 27)).alloc (.cells #[.int .i64 (mc : Int), .int .i64 (mb : Int)] 67)).alloc (.cells #[.bool false, .bool false, .bool false, .bool false, .bool false, .bool false, .bool false, .bool false] 69)) (.cells #[Value.bool ((fun q => false || (E == q)) 0), Value.bool ((fun q => false || (E == q)) 1), Value.bool ((fun q => false || (E == q)) 2), Value.bool ((fun q => false || (E == q)) 3), Value.bool ((fun q => false || (E == q)) 4), Value.bool ((fun q => false || (E == q)) 5), Value.bool ((fun q => false || (E == q)) 6), Value.bool ((fun q => false || (E == q)) 7)] 69)
  have y2 := bnext (bel1 ((w.alloc (.cells #[.int .i64 v, .slice b ws.length capb] 27)).alloc (.cells #[.int .i64 (mc : Int), .int .i64 (mb : Int)] 67)) (.cells #[.bool false, .bool false, .bool false, .bool false, .bool false, .bool false, .bool false, .bool false] 69)) y3
  have y1 := bnext (bel1 (w.alloc (.cells #[.int .i64 v, .slice b ws.length capb] 27)) (.cells #[.int .i64 (mc : Int), .int .i64 (mb : Int)] 67)) y2
  have b0 := bnext (bel1 w (.cells #[.int .i64 v, .slice b ws.length capb] 27)) y1
  have g0 := blk_below h0 y1
  have g1 := blk_below h1 y2
  have g2 := blk_below h2 y3
  have G3 : GB ((((w.alloc (.cells #[.int .i64 v, .slice b ws.length capb] 27)).alloc (.cells #[.int .i64 (mc : Int), .int .i64 (mb : Int)] 67)).alloc (.cells #[.bool false, .bool false, .bool false, .bool false, .bool false, .bool false, .bool false, .bool false] 69)).alloc (.cells #[Value.bool ((fun q => false || (E == q)) 0), Value.bool ((fun q => false || (E == q)) 1), Value.bool ((fun q => false || (E == q)) 2), Value.bool ((fun q => false || (E == q)) 3), Value.bool ((fun q => false || (E == q)) 4), Value.bool ((fun q => false || (E == q)) 5), Value.bool ((fun q => false || (E == q)) 6), Value.bool ((fun q => false || (E == q)) 7)] 69)) (w.heap.size + 1 + 1 + 1) (cgK v ws (mc, mb) 0) := by
    have h4 := new_blk (((w.alloc (.cells #[.int .i64 v, .slice b ws.length capb] 27)).alloc (.cells #[.int .i64 (mc : Int), .int .i64 (mb : Int)] 67)).alloc (.cells #[.bool false, .bool false, .bool false, .bool false, .bool false, .bool false, .bool false, .bool false] 69)) #[Value.bool ((fun q => false || (E == q)) 0), Value.bool ((fun q => false || (E == q)) 1), Value.bool ((fun q => false || (E == q)) 2), Value.bool ((fun q => false || (E == q)) 3), Value.bool ((fun q => false || (E == q)) 4), Value.bool ((fun q => false || (E == q)) 5), Value.bool ((fun q => false || (E == q)) 6), Value.bool ((fun q => false || (E == q)) 7)] 69
    simp only [World.size_alloc] at h4
    unfold GB cgK
    rw [hEE, Int.toNat_natCast]
    exact h4
  rw [← hW] at g0 g1 g2 G3 b0 ⊢
  have GS := hide G3
  have BS := hide (Below.refl (w.heap.size + 1 + 1 + 1) W4)
  have D0 := hide g0
  have D1 := hide g1
  have D2 := hide g2
  have B0 := hide b0
  have HI := hide hi
  have HR := hide hr
  have HVV := hide hv
  have hm1 := hm.1
  have hm2 := hm.2
  clear hW hW4 u0 u1 c0 c1 g0 g1 g2 G3 b0 i4 hi hr hEE hE8 hE hv h0 h1 h2 y3 y2 y1
  go_loopw [16] (fun i wr => ∃ j : Nat, j ≤ ws.length ∧ i = .int .i64 j ∧ GB wr (w.heap.size + 1 + 1 + 1) (cgK v ws (mc, mb) j) ∧ Below (w.heap.size + 1 + 1 + 1) W4 wr) (fun i _ => ws.length - (intOf i).toNat)
  case atStart => exact ⟨0, Nat.zero_le _, rfl, GS.out, BS.out⟩
  case round =>
    clear GS BS
    obtain ⟨j, hj, rfl, gt, hb⟩ := hrel
    have G5 := hide gt
    have HB := hide hb
    have d0 := (hb.block w.heap.size (by omega)).trans D0.out
    have d1 := (hb.block (w.heap.size + 1) (by omega)).trans D1.out
    have c0 := cell_of_block d0 0
    have c1 := cell_of_block d0 1
    have e0 := cell_of_block d1 0
    have e1 := cell_of_block d1 1
    have BW := hide (B0.out.trans (hb.mono (by omega)))
    have hsz := lt_blk gt
    clear d0 d1 hb gt
    by_cases hlt : j < ws.length
    · obtain ⟨bw, ow, rfl, _, hcell⟩ := (HI.out.below BW.out) (by omega)
      have x1 := hcell j hlt
      have hx := HR.out _ (List.getElem_mem hlt)
      rw [← getD_lt hlt] at hx
      obtain ⟨x, hxe⟩ : ∃ x, ws.getD j 0 = x := ⟨_, rfl⟩
      have FO := fun h => wnF_opp (v := v) (ws := ws) (m := (mc, mb)) (j := j) h
      have FW := fun h => wnF_own (v := v) (ws := ws) (m := (mc, mb)) (j := j) h
      rw [hxe] at x1 hx FO FW
      obtain ⟨ec, hec⟩ : ∃ ec, bitN mc j = ec := ⟨_, rfl⟩
      obtain ⟨eb, heb⟩ : ∃ eb, bitN mb j = eb := ⟨_, rfl⟩
      have l1 := bitN_le mc j
      have l2 := bitN_le mb j
      have s1 := shrL mc j (by omega)
      have s2 := shrL mb j (by omega)
      rw [hec] at l1 s1
      rw [heb] at l2 s2
      have HEC := hide hec
      have HEB := hide heb
      have HFO := hide FO
      have HFW := hide FW
      have HX := hide hx
      clear hcell hxe hec heb FO FW hx
      rcases (show ec = 0 ∨ ec = 1 from by omega) with rfl | rfl
      · go_wp2_with fail
        go_roundw
        case rel => exact ⟨j + 1, by omega, by go_num, by rw [cgK_no (show bitN (mc, mb).1 j = 0 from HEC.out)]; exact G5.out, HB.out⟩
        case measure => simp only [intOf]; omega
      · have HS := hide (cgK_yes (v := v) (ws := ws) (m := (mc, mb)) (j := j) HEC.out)
        go_wp2_with fail
        refine (winnersOf_any v x _ HVV.out HX.out).mono ?_
        rintro e w5 ⟨rfl, b5⟩
        have k8 := new_blk w5 #[Value.bool (upT v (winF x) 0), Value.bool (upT v (winF x) 1), Value.bool (upT v (winF x) 2), Value.bool (upT v (winF x) 3), Value.bool (upT v (winF x) 4), Value.bool (upT v (winF x) 5), Value.bool (upT v (winF x) 6), Value.bool (upT v (winF x) 7)] 69
        have bb := bnext b5 (bel1 w5 (.cells #[Value.bool (upT v (winF x) 0), Value.bool (upT v (winF x) 1), Value.bool (upT v (winF x) 2), Value.bool (upT v (winF x) 3), Value.bool (upT v (winF x) 4), Value.bool (upT v (winF x) 5), Value.bool (upT v (winF x) 6), Value.bool (upT v (winF x) 7)] 69))
        have g5 := (G5.out.below b5).below (bel1 w5 (.cells #[Value.bool (upT v (winF x) 0), Value.bool (upT v (winF x) 1), Value.bool (upT v (winF x) 2), Value.bool (upT v (winF x) 3), Value.bool (upT v (winF x) 4), Value.bool (upT v (winF x) 5), Value.bool (upT v (winF x) 6), Value.bool (upT v (winF x) 7)] 69))
        have q0 := (bb.cell (p := ⟨w.heap.size, 0, none⟩) (by show w.heap.size < wr.heap.size; omega)).trans c0
        have r0 := (bb.cell (p := ⟨w.heap.size + 1, 0, none⟩) (by show w.heap.size + 1 < wr.heap.size; omega)).trans e0
        have r1 := (bb.cell (p := ⟨w.heap.size + 1, 1, none⟩) (by show w.heap.size + 1 < wr.heap.size; omega)).trans e1
        have hs5 := b5.size
        have HB5 := hide (HB.out.trans (bb.mono (by omega)))
        have G6 := hide g5
        have K8 := hide k8
        clear c0 c1 e0 e1 bb b5 k8 x1 g5
        rcases (show eb = 0 ∨ eb = 1 from by omega) with rfl | rfl
        · have T8 := Tab.of (f := upT v (winF x)) K8.out
          obtain ⟨_, t80, t81, t82, t83, t84, t85, t86, t87⟩ := T8
          have HW0 := hide (HFO.out HEB.out)
          have hlt5 : w.heap.size + 1 + 1 + 1 < w5.heap.size := Nat.lt_of_lt_of_le hsz hs5
          have hn1 : ¬ (w.heap.size + 1 + 1 + 1 = w5.heap.size) := by omega
          have hn2 : ¬ (w5.heap.size = w.heap.size + 1 + 1 + 1) := by omega
          go_wp2_with fail
          clear t80 t81 t82 t83 t84 t85 t86 t87 q0 r0 r1
          refine (opposite_any v (upT v (winF x)) _ HVV.out).mono ?_
          rintro e w6 ⟨rfl, b6⟩
          have k6 := blk_below K8.out b6
          have g6 := G6.out.below b6
          obtain ⟨_, t80, t81, t82, t83, t84, t85, t86, t87⟩ := Tab.of (f := upT v (winF x)) k6
          obtain ⟨_, t50, t51, t52, t53, t54, t55, t56, t57⟩ := g6.cells
          have fz8 := free_blk k6
          have hw65 : w5.heap.size < w6.heap.size := lt_blk k6
          have HB6 := hide (HB5.out.trans (b6.mono (by simp; omega)))
          have G6' := hide g6
          clear b6 k6 g6 K8 G6
          go_wp2_with fail
          clear t80 t81 t82 t83 t84 t85 t86 t87 t50 t51 t52 t53 t54 t55 t56 t57
          refine (crossed_any (cgK v ws (mc, mb) j) (upT v (oppF v (upT v (winF x)))) _).mono ?_
          rintro e w7 ⟨rfl, b7⟩
          have s8 := fun x0 x1 x2 x3 x4 x5 x6 x7 => set8_below (Below.refl w5.heap.size w6) (g := w5.heap.size) (Nat.le_refl _) x0 x1 x2 x3 x4 x5 x6 x7
          have B8' := hide (s8 _ _ _ _ _ _ _ _ |>.trans (b7.mono (by simp; omega)))
          have g7 : GB w7 (w.heap.size + 1 + 1 + 1) (cgK v ws (mc, mb) j) := (B8'.out.block _ hlt5).trans G6'.out
          have HB7 := hide (HB6.out.trans (B8'.out.mono (by omega)))
          have p0 := cell_of_block g7 0
          have p1' := cell_of_block g7 1
          have p2' := cell_of_block g7 2
          have p3 := cell_of_block g7 3
          have p4 := cell_of_block g7 4
          have p5 := cell_of_block g7 5
          have p6 := cell_of_block g7 6
          have p7 := cell_of_block g7 7
          have fz := free_blk g7
          simp at p0 p1' p2' p3 p4 p5 p6 p7
          have G7 := hide g7
          clear b7 g7 G6' s8 B8' fz8
          go_wp2_with fail
          go_roundw
          case rel => exact ⟨j + 1, by omega, by go_num, by rw [HS.out, HW0.out]; exact set8_blk G7.out _ _ _ _ _ _ _ _, set8_below HB7.out (Nat.le_refl _) _ _ _ _ _ _ _ _⟩
          case measure => simp only [intOf]; omega
        · have T5 := G6.out.cells
          obtain ⟨_, t50, t51, t52, t53, t54, t55, t56, t57⟩ := T5
          have T8 := Tab.of (f := upT v (winF x)) K8.out
          obtain ⟨_, t80, t81, t82, t83, t84, t85, t86, t87⟩ := T8
          have HW1 := hide (HFW.out HEB.out)
          go_wp2_with fail
          clear t50 t51 t52 t53 t54 t55 t56 t57 t80 t81 t82 t83 t84 t85 t86 t87 q0 r0 r1
          refine (crossed_any (cgK v ws (mc, mb) j) (upT v (winF x)) _).mono ?_
          rintro e w7 ⟨rfl, b7⟩
          have g7 := G6.out.below b7
          have HB7 := hide (HB5.out.trans (b7.mono (by simp; omega)))
          have p0 := cell_of_block g7 0
          have p1' := cell_of_block g7 1
          have p2' := cell_of_block g7 2
          have p3 := cell_of_block g7 3
          have p4 := cell_of_block g7 4
          have p5 := cell_of_block g7 5
          have p6 := cell_of_block g7 6
          have p7 := cell_of_block g7 7
          have fz := free_blk g7
          simp at p0 p1' p2' p3 p4 p5 p6 p7
          have G7 := hide g7
          clear b7 g7 G6 K8
          go_wp2_with fail
          go_roundw
          case rel => exact ⟨j + 1, by omega, by go_num, by rw [HS.out, HW1.out]; exact set8_blk G7.out _ _ _ _ _ _ _ _, set8_below HB7.out (Nat.le_refl _) _ _ _ _ _ _ _ _⟩
          case measure => simp only [intOf]; omega
    · obtain rfl : j = ws.length := by omega
      have g2 := (HB.out.block (w.heap.size + 1 + 1) (by omega)).trans D2.out
      obtain ⟨_, t50, t51, t52, t53, t54, t55, t56, t57⟩ := G5.out.cells
      have r0 := cell_of_block g2 0
      have r1 := cell_of_block g2 1
      have r2 := cell_of_block g2 2
      have r3 := cell_of_block g2 3
      have r4 := cell_of_block g2 4
      have r5 := cell_of_block g2 5
      have r6 := cell_of_block g2 6
      have r7 := cell_of_block g2 7
      have fz := free_blk g2
      have HR2 := hide g2
      clear g2 c0 c1 e0 e1
      simp at r0 r1 r2 r3 r4 r5 r6 r7
      go_wp2
      exact bodyPost_ret (v := .agg #[Value.bool ((cgK v ws (mc, mb) ws.length) 0), Value.bool ((cgK v ws (mc, mb) ws.length) 1), Value.bool ((cgK v ws (mc, mb) ws.length) 2), Value.bool ((cgK v ws (mc, mb) ws.length) 3), Value.bool ((cgK v ws (mc, mb) ws.length) 4), Value.bool ((cgK v ws (mc, mb) ws.length) 5), Value.bool ((cgK v ws (mc, mb) ws.length) 6), Value.bool ((cgK v ws (mc, mb) ws.length) 7)]) (ret_set (p := 4) rfl _ _ (w.heap.size + 1 + 1) _ _ _ _ _ _ _ _ _ rfl (set8_blk HR2.out _ _ _ _ _ _ _ _)) rfl ⟨rfl, set8_below BW.out (by omega) _ _ _ _ _ _ _ _⟩
end Go.Proofs.Ytnmfhnieknckcaa

/- MtS: Groups that win for the answers of a part, and what they have in common: the model's walk. -/
namespace Go.Proofs.Ytnmfhnieknckcaa
open Go.RowKit Go.Joins

/-- whether a group wins for the answer of a part to an issue -/
def winB (v : Nat) (ws : List Int) (m : Nat × Nat) (j x : Nat) : Bool := if bitN m.2 j = 0 then bitN (ws.getD j 0).toNat (2 ^ v - 1 - x) == 0 else bitN (ws.getD j 0).toNat x == 1
/-- whether groups that win for all answers from an issue on have a voter in common with a group -/
def mtK (v : Nat) (ws : List Int) (m : Nat × Nat) : Nat → Nat → Nat → Bool
  | 0, _, c => decide (0 < c)
  | k + 1, j, c => if bitN m.1 j = 0 then mtK v ws m k (j + 1) c else (List.range (2 ^ v)).all fun x => !winB v ws m j x || mtK v ws m k (j + 1) (c &&& x)
theorem mtK_skip {v : Nat} {ws : List Int} {m : Nat × Nat} {k j c : Nat} (h : bitN m.1 j = 0) : mtK v ws m (k + 1) j c = mtK v ws m k (j + 1) c := by rw [mtK, if_pos h]
theorem mtK_no {v : Nat} {ws : List Int} {m : Nat × Nat} {k j c x : Nat} (h : bitN m.1 j = 1) (hx : x < 2 ^ v) (hw : winB v ws m j x = true) (hm : mtK v ws m k (j + 1) (c &&& x) = false) : mtK v ws m (k + 1) j c = false := by
  rw [mtK, if_neg (by rw [h]; decide), List.all_eq_false]
  exact ⟨x, List.mem_range.2 hx, by rw [hw, hm]; decide⟩
theorem mtK_yes {v : Nat} {ws : List Int} {m : Nat × Nat} {k j c : Nat} (h : bitN m.1 j = 1) (ha : ∀ x, x < 2 ^ v → (!winB v ws m j x || mtK v ws m k (j + 1) (c &&& x)) = true) : mtK v ws m (k + 1) j c = true := by
  rw [mtK, if_neg (by rw [h]; decide), List.all_eq_true]
  exact fun x hx => ha x (List.mem_range.1 hx)
/-- the three variables of a call -/
def MV (w : World) (N : Nat) (a : Option Addr) (zn cap v : Nat) (b : Option Addr) (ws : List Int) (capb : Nat) (m : Nat × Nat) (wx : World) : Prop :=
  (wx.cell? ⟨w.heap.size, 0, none⟩ = some (.int .i64 (N : Int)) ∧ wx.cell? ⟨w.heap.size, 1, none⟩ = some (.slice a zn cap)) ∧ (wx.cell? ⟨w.heap.size + 1, 0, none⟩ = some (.int .i64 (v : Int)) ∧ wx.cell? ⟨w.heap.size + 1, 1, none⟩ = some (.slice b N capb)) ∧
  (wx.cell? ⟨w.heap.size + 2, 0, none⟩ = some (.int .i64 (m.1 : Int)) ∧ wx.cell? ⟨w.heap.size + 2, 1, none⟩ = some (.int .i64 (m.2 : Int))) ∧ Ints wx b ws ∧ Below w.heap.size w wx
theorem MV.below {w : World} {N : Nat} {a : Option Addr} {zn cap v : Nat} {b : Option Addr} {ws : List Int} {capb : Nat} {m : Nat × Nat} {wx wy : World} (h : MV w N a zn cap v b ws capb m wx) (hb : Below wx.heap.size wx wy) : MV w N a zn cap v b ws capb m wy := by
  obtain ⟨⟨h1, h2⟩, ⟨h3, h4⟩, ⟨h5, h6⟩, h7, h8⟩ := h
  have k : ∀ (p : Addr) (u : Value), wx.cell? p = some u → wy.cell? p = some u := fun p u h => (hb.cell (p := p) (World.block_lt_of_cell? _ _ h)).trans h
  exact ⟨⟨k _ _ h1, k _ _ h2⟩, ⟨k _ _ h3, k _ _ h4⟩, ⟨k _ _ h5, k _ _ h6⟩, h7.below hb, bnext h8 hb⟩
theorem MV.new (w : World) (N : Nat) (a : Option Addr) (zn cap v : Nat) (b : Option Addr) (ws : List Int) (capb : Nat) (m : Nat × Nat) (hi : Ints w b ws) :
    MV w N a zn cap v b ws capb m (((w.alloc (.cells #[.int .i64 (N : Int), .slice a zn cap] 25)).alloc (.cells #[.int .i64 (v : Int), .slice b N capb] 27)).alloc (.cells #[.int .i64 (m.1 : Int), .int .i64 (m.2 : Int)] 67)) := by
  have h0 := heap_alloc_new w (.cells #[.int .i64 (N : Int), .slice a zn cap] 25)
  have h1 := heap_alloc_new (w.alloc (.cells #[.int .i64 (N : Int), .slice a zn cap] 25)) (.cells #[.int .i64 (v : Int), .slice b N capb] 27)
  have h2 := heap_alloc_new ((w.alloc (.cells #[.int .i64 (N : Int), .slice a zn cap] 25)).alloc (.cells #[.int .i64 (v : Int), .slice b N capb] 27)) (.cells #[.int .i64 (m.1 : Int), .int .i64 (m.2 : Int)] 67)
  have b1 := bel1 ((w.alloc (.cells #[.int .i64 (N : Int), .slice a zn cap] 25)).alloc (.cells #[.int .i64 (v : Int), .slice b N capb] 27)) (.cells #[.int .i64 (m.1 : Int), .int .i64 (m.2 : Int)] 67)
  have b2 := bel2 (w.alloc (.cells #[.int .i64 (N : Int), .slice a zn cap] 25)) (.cells #[.int .i64 (v : Int), .slice b N capb] 27) (.cells #[.int .i64 (m.1 : Int), .int .i64 (m.2 : Int)] 67)
  have b3 := bnext (bel1 w (.cells #[.int .i64 (N : Int), .slice a zn cap] 25)) b2
  have g0 := (b2.block w.heap.size (by simp)).trans h0
  simp only [World.size_alloc] at h1 h2
  have g1 := (b1.block (w.heap.size + 1) (by simp)).trans h1
  exact ⟨⟨cell_of_block g0 0, cell_of_block g0 1⟩, ⟨cell_of_block g1 0, cell_of_block g1 1⟩, ⟨cell_of_block h2 0, cell_of_block h2 1⟩, hi.below b3, b3⟩
theorem bit8_int (a j r : Nat) (y : Int) (w : World) (hy : y = (j : Int)) (ha : a < 65536) (hj : j ≤ 8) (h : bitN a j = r) : Calls Try.prog 82 #[.int .i64 a, .int .i64 y] w fun e w' => e = .returned (.int .i64 (r : Nat)) ∧ w = w' := by
  subst h hy
  exact bit8_any a j w ha hj

set_option maxHeartbeats 8000000 in
set_option maxRecDepth 100000 in
theorem meets_any (N zn cap v capb : Nat) (a b : Option Addr) (ws : List Int) (mc mb : Nat) (hv : 1 ≤ v ∧ v ≤ 3) (hN : N ≤ 4) (hl : ws.length = N) (hr : ∀ x ∈ ws, 0 ≤ x ∧ x ≤ 255) (hm : mc < 16 ∧ mb < 16) :
    ∀ (k j c : Nat) (y z : Int) (w : World), j + k = N → c < 8 → y = (j : Int) → z = (c : Int) → Ints w b ws →
    Calls Try.prog 63 #[.agg #[.int .i64 (N : Int), .slice a zn cap], .agg #[.int .i64 (v : Int), .slice b N capb], .agg #[.int .i64 (mc : Int), .int .i64 (mb : Int)], .int .i64 y, .int .i64 z] w fun e w' => e = .returned (.bool (mtK v ws (mc, mb) k j c)) ∧ Below w.heap.size w w'
  | 0, j, c, y, z, w, hj, hc, hy, hz, hi => by
    obtain rfl : j = N := by omega
    subst hy hz
    obtain ⟨⟨c0, c1⟩, ⟨d0, d1⟩, ⟨e0, e1⟩, _, hB⟩ := MV.new w j a zn cap v b ws capb (mc, mb) hi
    simp only at e0 e1
    have heq : ((j : Int) == (j : Int)) = true := by simp
    have HB := hide hB
    have hg : decide ((0 : Int) < (c : Int)) = decide (0 < c) := by simp
    have HG := hide hg
    clear hB hi hg
    go_enter Try.func63, Try.ntmps63
    go_wp2_with fail
    go_ret
    exact ⟨ret_bool (by rw [mtK]), HB.out⟩
  | k + 1, j, c, y, z, w, hj, hc, hy, hz, hi => by
    subst hy hz
    have ih := fun (c' : Nat) (y z : Int) (w : World) => meets_any N zn cap v capb a b ws mc mb hv hN hl hr hm k (j + 1) c' y z w (by omega)
    have IH := hide ih
    have HM := MV.new w N a zn cap v b ws capb (mc, mb) hi
    have HMV := hide HM
    obtain ⟨⟨c0, c1⟩, ⟨d0, d1⟩, ⟨e0, e1⟩, _, _⟩ := HM
    simp only at e0 e1
    have hne : ((j : Int) == (N : Int)) = false := by simp; omega
    have HR := hide hr
    have HL := hide hl
    obtain ⟨bc, hbc⟩ : ∃ bc, bitN mc j = bc := ⟨_, rfl⟩
    have lbc := bitN_le mc j
    rw [hbc] at lbc
    have HBC := hide hbc
    have hm1 := hm.1
    have hm2 := hm.2
    clear hi hr hl hbc ih
    rcases (show bc = 0 ∨ bc = 1 from by omega) with rfl | rfl
    · have HS := hide (mtK_skip (v := v) (ws := ws) (m := (mc, mb)) (k := k) (j := j) (c := c) HBC.out)
      go_enter Try.func63, Try.ntmps63
      go_wp2_with (go_at_call 82; refine (bit8_was mc j 0 _ (by omega) (by omega) HBC.out).mono ?_; rintro e w' ⟨rfl, rfl⟩)
      refine (IH.out c _ _ _ hc (by first | rfl | omega) rfl HMV.out.2.2.2.1).mono ?_
      rintro e w2 ⟨rfl, b2⟩
      go_wp2_with fail
      go_ret
      exact ⟨ret_bool HS.out.symm, (HMV.out.below b2).2.2.2.2⟩
    · obtain ⟨Q, hQ⟩ : ∃ Q, 2 ^ v = Q := ⟨_, rfl⟩
      have hQ8 : Q ≤ 8 := by
        rw [← hQ]
        have : 2 ^ v ≤ 2 ^ 3 := Nat.pow_le_pow_right (by omega) hv.2
        omega
      have hQ1 : 1 ≤ Q := by rw [← hQ]; exact Nat.two_pow_pos v
      have hjl : j < ws.length := by rw [HL.out]; omega
      obtain ⟨wj, hwj⟩ : ∃ wj : Nat, ws.getD j 0 = (wj : Int) := ⟨(ws.getD j 0).toNat, by
        have := HR.out _ (List.getElem_mem hjl)
        rw [getD_lt hjl]
        omega⟩
      have hw8 : wj < 256 := by
        have := HR.out _ (List.getElem_mem hjl)
        rw [← getD_lt hjl, hwj] at this
        omega
      have HW : Hid (∀ x, winB v ws (mc, mb) j x = if bitN mb j = 0 then bitN wj (Q - 1 - x) == 0 else bitN wj x == 1) := fun x => by
        unfold winB
        rw [hwj, hQ, Int.toNat_natCast]
      have NO : Hid (∀ x, x < Q → winB v ws (mc, mb) j x = true → mtK v ws (mc, mb) k (j + 1) (c &&& x) = false → mtK v ws (mc, mb) (k + 1) j c = false) := fun x hx hw hm => mtK_no HBC.out (by rw [hQ]; exact hx) hw hm
      have YES : Hid ((∀ x, x < Q → (!winB v ws (mc, mb) j x || mtK v ws (mc, mb) k (j + 1) (c &&& x)) = true) → mtK v ws (mc, mb) (k + 1) j c = true) := fun h => mtK_yes HBC.out fun x hx => h x (by rw [← hQ]; exact hx)
      have HQ := hide hQ
      have HWJ := hide hwj
      have hv8 : v ≤ 8 := by omega
      clear hQ hwj
      obtain ⟨bb, hbb⟩ : ∃ bb, bitN mb j = bb := ⟨_, rfl⟩
      have lbb := bitN_le mb j
      rw [hbb] at lbb
      have HBB := hide hbb
      clear hbb
      go_enter Try.func63, Try.ntmps63
      go_wp2_with (first
        | (go_at_call 82; refine (bit8_was mc j 1 _ (by omega) (by omega) HBC.out).mono ?_; rintro e w' ⟨rfl, rfl⟩)
        | (go_at_call 64; refine (power8_was v Q _ hv8 HQ.out).mono ?_; rintro e w' ⟨rfl, rfl⟩))
      clear c0 c1 d0 d1 e0 e1
      go_loopw [12] (fun i wr => ∃ g : Nat, g ≤ Q ∧ i = .int .i64 g ∧ Hid (∀ x, x < g → (!winB v ws (mc, mb) j x || mtK v ws (mc, mb) k (j + 1) (c &&& x)) = true) ∧ MV w N a zn cap v b ws capb (mc, mb) wr) (fun i _ => Q - (intOf i).toNat)
      case atStart => exact ⟨0, Nat.zero_le _, rfl, fun x hx => by omega, HMV.out⟩
      case round =>
        clear HMV
        obtain ⟨g, hg, rfl, hall, HM⟩ := hrel
        have HMV := hide HM
        obtain ⟨⟨c0, c1⟩, ⟨d0, d1⟩, ⟨e0, e1⟩, ib, _⟩ := HM
        simp only at e0 e1
        by_cases hgt : g < Q
        · have hle : decide ((g : Int) ≤ (Q : Int) - 1) = true := by simp; omega
          obtain ⟨bw, ow, rfl, _, hcell⟩ := ib (by omega)
          have x1 := hcell j hjl
          rw [HWJ.out] at x1
          have hand := andL c g (by omega) (by omega)
          have hcg : c &&& g < 8 := Nat.lt_of_le_of_lt Nat.and_le_left hc
          have hw := HW.out g
          rw [HBB.out] at hw
          have NO' : Hid (winB v ws (mc, mb) j g = true → mtK v ws (mc, mb) k (j + 1) (c &&& g) = false → mtK v ws (mc, mb) (k + 1) j c = false) := NO.out g hgt
          have NXT : Hid ((!winB v ws (mc, mb) j g || mtK v ws (mc, mb) k (j + 1) (c &&& g)) = true → ∀ x, x < g + 1 → (!winB v ws (mc, mb) j x || mtK v ws (mc, mb) k (j + 1) (c &&& x)) = true) := fun h x hx => by
            rcases Nat.lt_or_ge x g with h1 | h1
            · exact hall.out x h1
            · obtain rfl : x = g := by omega
              exact h
          obtain ⟨eg, heg⟩ : ∃ eg, bitN wj g = eg := ⟨_, rfl⟩
          obtain ⟨eo, heo⟩ : ∃ eo, bitN wj (Q - 1 - g) = eo := ⟨_, rfl⟩
          have leg := bitN_le wj g
          have leo := bitN_le wj (Q - 1 - g)
          rw [heg] at leg hw
          rw [heo] at leo hw
          have HEG := hide heg
          have HEO := hide heo
          obtain ⟨cg, hcgv⟩ : ∃ cg, c &&& g = cg := ⟨_, rfl⟩
          rw [hcgv] at hand hcg NO' NXT
          obtain ⟨mr, hmr⟩ : ∃ mr, mtK v ws (mc, mb) k (j + 1) cg = mr := ⟨_, rfl⟩
          rw [hmr] at NO' NXT
          have HMR := hide hmr
          have HAND := hide hand
          clear hcell ib hall heg heo hcgv hmr hand
          rcases (show bb = 0 ∨ bb = 1 from by omega) with rfl | rfl
          · rcases (show eo = 0 ∨ eo = 1 from by omega) with rfl | rfl
            · have HWIN := hide (show winB v ws (mc, mb) j g = true from by rw [hw]; simp)
              clear hw
              go_wp2_with (first
              | (go_at_call 82; (first
                  | with_reducible refine (bit8_int mb j 0 _ _ (by omega) (by omega) (by omega) HBB.out).mono ?_
                  | with_reducible refine (bit8_int wj g eg _ _ (by omega) (by omega) (by omega) HEG.out).mono ?_
                  | with_reducible refine (bit8_int wj (Q - 1 - g) 0 _ _ (by omega) (by omega) (by omega) HEO.out).mono ?_); rintro e w' ⟨rfl, rfl⟩))
              rw [HAND.out]
              refine (IH.out cg _ _ _ hcg (by first | rfl | omega) rfl HMV.out.2.2.2.1).mono ?_
              rintro e w2 ⟨rfl, b2⟩
              rw [HMR.out]
              have HM2 := hide (HMV.out.below b2)
              clear b2 c0 c1 d0 d1 e0 e1 x1 HMV
              cases mr with
              | false =>
                go_wp2_with fail
                go_ret
                exact ⟨ret_bool (NO'.out HWIN.out (by first | trivial | rfl)).symm, HM2.out.2.2.2.2⟩
              | true =>
                go_wp2_with fail
                go_roundw
                case rel => exact ⟨g + 1, by omega, by go_num, NXT.out (by rw [HWIN.out]; simp), HM2.out⟩
                case measure => simp only [intOf]; omega
            · have HWIN := hide (show winB v ws (mc, mb) j g = false from by rw [hw]; simp)
              clear hw
              go_wp2_with (first
              | (go_at_call 82; (first
                  | with_reducible refine (bit8_int mb j 0 _ _ (by omega) (by omega) (by omega) HBB.out).mono ?_
                  | with_reducible refine (bit8_int wj g eg _ _ (by omega) (by omega) (by omega) HEG.out).mono ?_
                  | with_reducible refine (bit8_int wj (Q - 1 - g) 1 _ _ (by omega) (by omega) (by omega) HEO.out).mono ?_); rintro e w' ⟨rfl, rfl⟩))
              go_roundw
              case rel => exact ⟨g + 1, by omega, by go_num, NXT.out (by rw [HWIN.out]; simp), HMV.out⟩
              case measure => simp only [intOf]; omega
          · rcases (show eg = 0 ∨ eg = 1 from by omega) with rfl | rfl
            · have HWIN := hide (show winB v ws (mc, mb) j g = false from by rw [hw]; simp)
              clear hw
              go_wp2_with (first
              | (go_at_call 82; (first
                  | with_reducible refine (bit8_int mb j 1 _ _ (by omega) (by omega) (by omega) HBB.out).mono ?_
                  | with_reducible refine (bit8_int wj g 0 _ _ (by omega) (by omega) (by omega) HEG.out).mono ?_
                  | with_reducible refine (bit8_int wj (Q - 1 - g) eo _ _ (by omega) (by omega) (by omega) HEO.out).mono ?_); rintro e w' ⟨rfl, rfl⟩))
              go_roundw
              case rel => exact ⟨g + 1, by omega, by go_num, NXT.out (by rw [HWIN.out]; simp), HMV.out⟩
              case measure => simp only [intOf]; omega
            · have HWIN := hide (show winB v ws (mc, mb) j g = true from by rw [hw]; simp)
              clear hw
              go_wp2_with (first
              | (go_at_call 82; (first
                  | with_reducible refine (bit8_int mb j 1 _ _ (by omega) (by omega) (by omega) HBB.out).mono ?_
                  | with_reducible refine (bit8_int wj g 1 _ _ (by omega) (by omega) (by omega) HEG.out).mono ?_
                  | with_reducible refine (bit8_int wj (Q - 1 - g) eo _ _ (by omega) (by omega) (by omega) HEO.out).mono ?_); rintro e w' ⟨rfl, rfl⟩))
              rw [HAND.out]
              refine (IH.out cg _ _ _ hcg (by first | rfl | omega) rfl HMV.out.2.2.2.1).mono ?_
              rintro e w2 ⟨rfl, b2⟩
              rw [HMR.out]
              have HM2 := hide (HMV.out.below b2)
              clear b2 c0 c1 d0 d1 e0 e1 x1 HMV
              cases mr with
              | false =>
                go_wp2_with fail
                go_ret
                exact ⟨ret_bool (NO'.out HWIN.out (by first | trivial | rfl)).symm, HM2.out.2.2.2.2⟩
              | true =>
                go_wp2_with fail
                go_roundw
                case rel => exact ⟨g + 1, by omega, by go_num, NXT.out (by rw [HWIN.out]; simp), HM2.out⟩
                case measure => simp only [intOf]; omega
        · obtain rfl : g = Q := by omega
          have hle : decide ((g : Int) ≤ (g : Int) - 1) = false := by simp; omega
          go_wp2_with fail
          go_ret
          exact ⟨ret_bool (YES.out hall.out).symm, HMV.out.2.2.2.2⟩
end Go.Proofs.Ytnmfhnieknckcaa

/- MtI: DoMeet's look at the critical parts, in the program: ContainsFunc over parts with DoMeet's closure. -/
namespace Go.Proofs.Ytnmfhnieknckcaa
open Go.RowKit Go.Joins

/-- whether groups that agree on the answers of a part have no common voter -/
def noneB (v : Int) (ws : List Int) (m : Nat × Nat) : Bool := cgK v ws m ws.length 0
set_option maxRecDepth 100000 in
theorem doMeet1_any (v : Int) (b : Option Addr) (ws : List Int) (capb pc pb g : Nat) (w : World) (hv : 1 ≤ v ∧ v ≤ 3) (hi : Ints w b ws) (hl : ws.length ≤ 4) (hr : ∀ x ∈ ws, 0 ≤ x ∧ x ≤ 255) (hm : pc < 16 ∧ pb < 16) (q0 : w.cell? ⟨g, 0, none⟩ = some (.int .i64 v)) (q1 : w.cell? ⟨g, 1, none⟩ = some (.slice b ws.length capb)) :
    Calls Try.prog 60 #[.agg #[.int .i64 (pc : Int), .int .i64 (pb : Int)], .pointer (some ⟨g, 0, none⟩)] w fun e w' => e = .returned (.bool (noneB v ws (pc, pb))) ∧ Below w.heap.size w w' := by
  have hlt := World.block_lt_of_cell? w ⟨g, 0, none⟩ q0
  have B1 := bel1 w (.cells #[.int .i64 (pc : Int), .int .i64 (pb : Int)] 67)
  have c0 := (B1.cell (p := ⟨g, 0, none⟩) hlt).trans q0
  have c1 := (B1.cell (p := ⟨g, 1, none⟩) hlt).trans q1
  have I1 := hide (hi.below B1)
  have HB := hide B1
  have HV := hide hv
  have HR := hide hr
  have HM := hide hm
  have hidx : ∀ w : World, (Instr.index 69 (.agg #[Value.bool ((cgK v ws (pc, pb) ws.length) 0), Value.bool ((cgK v ws (pc, pb) ws.length) 1), Value.bool ((cgK v ws (pc, pb) ws.length) 2), Value.bool ((cgK v ws (pc, pb) ws.length) 3), Value.bool ((cgK v ws (pc, pb) ws.length) 4), Value.bool ((cgK v ws (pc, pb) ws.length) 5), Value.bool ((cgK v ws (pc, pb) ws.length) 6), Value.bool ((cgK v ws (pc, pb) ws.length) 7)]) (.int .i64 0)).run Try.prog w = .ok (.bool (cgK v ws (pc, pb) ws.length 0)) w := fun w => idx0_run _ _ _ _ _ _ _ _ w
  have HN : Hid (noneB v ws (pc, pb) = cgK v ws (pc, pb) ws.length 0) := rfl
  obtain ⟨_, p0, p1⟩ := PBox.new w (pc : Int) (pb : Int) 67
  clear hi hr hm hv B1 q0 q1
  go_enter Try.func60, Try.ntmps60
  go_wp2_with fail
  refine (commonGroups_any v b ws capb pc pb _ HV.out I1.out hl HR.out HM.out).mono ?_
  rintro e w1 ⟨rfl, h1⟩
  go_wp2
  go_ret
  exact ⟨ret_bool HN.out.symm, bnext HB.out h1⟩
theorem doMeet1_was (v : Int) (b : Option Addr) (ws : List Int) (capb pc pb g : Nat) (r : Bool) (w : World) (hv : 1 ≤ v ∧ v ≤ 3) (hi : Ints w b ws) (hl : ws.length ≤ 4) (hr : ∀ x ∈ ws, 0 ≤ x ∧ x ≤ 255) (hm : pc < 16 ∧ pb < 16) (q0 : w.cell? ⟨g, 0, none⟩ = some (.int .i64 v)) (q1 : w.cell? ⟨g, 1, none⟩ = some (.slice b ws.length capb)) (h : noneB v ws (pc, pb) = r) :
    Calls Try.prog 60 #[.agg #[.int .i64 (pc : Int), .int .i64 (pb : Int)], .pointer (some ⟨g, 0, none⟩)] w fun e w' => e = .returned (.bool r) ∧ Below w.heap.size w w' := by
  subst h
  exact doMeet1_any v b ws capb pc pb g w hv hi hl hr hm q0 q1
def IdxMPost (v : Int) (ws : List Int) (L : List (Nat × Nat)) (w : World) (e : Ending) (w' : World) : Prop :=
  ∃ r : Int, ((L.any (noneB v ws) = true ∧ 0 ≤ r) ∨ (L.any (noneB v ws) = false ∧ r = -1)) ∧ r ≤ 1048576 ∧ e = .returned (.int .i64 r) ∧ Below w.heap.size w w'
set_option maxHeartbeats 1000000 in
theorem indexFuncM_any (v : Int) (b : Option Addr) (ws : List Int) (capb g : Nat) (a : Option Addr) (cap : Nat) (L : List (Nat × Nat)) (w : World) (hp : PInts w a (ofP L)) (hn : L.length ≤ 1048576) (h16 : ∀ p ∈ L, p.1 < 16 ∧ p.2 < 16)
    (hv : 1 ≤ v ∧ v ≤ 3) (hi : Ints w b ws) (hl : ws.length ≤ 4) (hr : ∀ x ∈ ws, 0 ≤ x ∧ x ≤ 255) (q0 : w.cell? ⟨g, 0, none⟩ = some (.int .i64 v)) (q1 : w.cell? ⟨g, 1, none⟩ = some (.slice b ws.length capb)) :
    Calls Try.prog 109 #[.slice a L.length cap, .func (.func 60) #[] #[.pointer (some ⟨g, 0, none⟩)]] w (IdxMPost v ws L w) := by
  have hglt := World.block_lt_of_cell? w ⟨g, 0, none⟩ q0
  have HV := hide hv
  have HI := hide hi
  have HR := hide hr
  have HP := hide hp
  have H16 := hide h16
  have Q0 := hide q0
  have Q1 := hide q1
  have HLL := hide (ofP_len L)
  clear hv hi hr hp h16 q0 q1
  go_enter Try.func109, Try.ntmps109
  go_wp2_with fail
  go_loopw [8] (fun i wr => ∃ k : Nat, k ≤ L.length ∧ i = .int .i64 k ∧ Hid (∀ j (hj : j < L.length), j < k → noneB v ws L[j] = false) ∧ Below w.heap.size w wr) (fun i _ => L.length - (intOf i).toNat)
  case atStart => exact ⟨0, Nat.zero_le _, rfl, fun j hj h => by omega, Below.refl _ _⟩
  case round =>
    obtain ⟨k, hk, rfl, HA, hb⟩ := hrel
    have HB := hide hb
    by_cases hlt : k < L.length
    · obtain ⟨bb, off, rfl, hbl, hc⟩ := (HP.out.below hb) (by rw [HLL.out]; omega)
      obtain ⟨h1, h2⟩ := hc k (by rw [HLL.out]; omega)
      obtain ⟨pc, hpc⟩ : ∃ pc, pc = L[k].1 := ⟨_, rfl⟩
      obtain ⟨pb, hpb⟩ : ∃ pb, pb = L[k].2 := ⟨_, rfl⟩
      have hm' : L[k] = (pc, pb) := by rw [hpc, hpb]
      have hm := H16.out L[k] (List.getElem_mem hlt)
      rw [ofP_at hlt, hm'] at h1 h2
      rw [hm'] at hm
      have s0 := hide ((hb.cell (p := ⟨g, 0, none⟩) hglt).trans Q0.out)
      have s1 := hide ((hb.cell (p := ⟨g, 1, none⟩) hglt).trans Q1.out)
      have I1 := hide (HI.out.below hb)
      have HM := hide hm
      obtain ⟨r, hr⟩ : ∃ r, noneB v ws (pc, pb) = r := ⟨_, rfl⟩
      have HRR := hide hr
      have FND : Hid (r = true → L.any (noneB v ws) = true) := fun e => List.any_eq_true.2 ⟨L[k], List.getElem_mem hlt, by rw [hm', hr, e]⟩
      have NXT : Hid (r = false → ∀ j (hj : j < L.length), j < k + 1 → noneB v ws L[j] = false) := fun e j hj h => by
        rcases Nat.lt_or_ge j k with h3 | h3
        · exact HA.out j hj h3
        · obtain rfl : j = k := by omega
          rw [hm', hr, e]
      clear hc hpc hpb hm' hm hr hb HA
      cases r with
      | true =>
        go_wp2_with fail
        refine (doMeet1_was v b ws capb pc pb g true _ HV.out I1.out hl HR.out HM.out s0.out s1.out HRR.out).mono ?_
        rintro e w1 ⟨rfl, h1'⟩
        go_wp2
        go_ret
        exact ⟨k, .inl ⟨FND.out trivial, by omega⟩, by omega, rfl, bnext HB.out h1'⟩
      | false =>
        go_wp2_with fail
        refine (doMeet1_was v b ws capb pc pb g false _ HV.out I1.out hl HR.out HM.out s0.out s1.out HRR.out).mono ?_
        rintro e w1 ⟨rfl, h1'⟩
        go_wp2
        go_roundw
        case rel => exact ⟨k + 1, by omega, by go_num, NXT.out trivial, bnext HB.out h1'⟩
        case measure => simp only [intOf]; omega
    · obtain rfl : k = L.length := by omega
      go_wp2
      go_ret
      exact ⟨-1, .inr ⟨by
        rw [List.any_eq_false]
        intro x hx
        obtain ⟨j, hj, rfl⟩ := List.getElem_of_mem hx
        rw [HA.out j hj hj]
        decide, rfl⟩, by omega, rfl, HB.out⟩
theorem containsFuncM_any (v : Int) (b : Option Addr) (ws : List Int) (capb g : Nat) (a : Option Addr) (cap : Nat) (L : List (Nat × Nat)) (r : Bool) (w : World) (hp : PInts w a (ofP L)) (hn : L.length ≤ 1048576) (h16 : ∀ p ∈ L, p.1 < 16 ∧ p.2 < 16)
    (hv : 1 ≤ v ∧ v ≤ 3) (hi : Ints w b ws) (hl : ws.length ≤ 4) (hr : ∀ x ∈ ws, 0 ≤ x ∧ x ≤ 255) (q0 : w.cell? ⟨g, 0, none⟩ = some (.int .i64 v)) (q1 : w.cell? ⟨g, 1, none⟩ = some (.slice b ws.length capb)) (hf : L.any (noneB v ws) = r) :
    Calls Try.prog 59 #[.slice a L.length cap, .func (.func 60) #[] #[.pointer (some ⟨g, 0, none⟩)]] w fun e w' => e = .returned (.bool r) ∧ Below w.heap.size w w' := by
  have HF := hide hf
  clear hf
  go_enter Try.func59, Try.ntmps59
  go_wp2_with fail
  refine (indexFuncM_any v b ws capb g a cap L _ hp hn h16 hv hi hl hr q0 q1).mono ?_
  rintro e w' ⟨i, hi', hr2, rfl, hb⟩
  cases r with
  | true =>
    have h0 : 0 ≤ i := by
      rcases hi' with ⟨_, h⟩ | ⟨h, _⟩
      · exact h
      · rw [HF.out] at h; cases h
    clear hi'
    go_wp2
    go_ret
    exact ⟨rfl, hb⟩
  | false =>
    have h0 : i < 0 := by
      rcases hi' with ⟨h, _⟩ | ⟨_, h⟩
      · rw [HF.out] at h; cases h
      · omega
    clear hi'
    go_wp2
    go_ret
    exact ⟨ret_bool (by simp; omega), hb⟩
end Go.Proofs.Ytnmfhnieknckcaa

/- MtM: Groups that meet: the program's sets and the model's recursion say the same. -/
namespace Go.Proofs.Ytnmfhnieknckcaa
open Go.RowKit Go.Joins

theorem crF_iff {f h : Nat → Bool} {q : Nat} : crF f h q = true ↔ ∃ x, x < 8 ∧ ∃ y, y < 8 ∧ f x = true ∧ h y = true ∧ x &&& y = q := by
  unfold crF crI crJ
  simp only [List.any_eq_true, List.mem_range, Bool.and_eq_true, beq_iff_eq]
theorem comp_fin : ∀ v : Fin 4, ∀ x : Fin 8, x.val < 2 ^ v.val → (2 ^ v.val - 1) ^^^ x.val = 2 ^ v.val - 1 - x.val := by decide +kernel
theorem pwN (v : Nat) : pw (v : Int) = ((2 ^ v : Nat) : Int) := by unfold pw; rw [Int.toNat_natCast]
theorem wn_win {v : Nat} (hv : 1 ≤ v ∧ v ≤ 3) {ws : List Int} {m : Nat × Nat} {j x : Nat} (hx : x < 8) : wnF (v : Int) ws m j x = true ↔ x < 2 ^ v ∧ winB v ws m j x = true := by
  have hE : (pw (v : Int) - 1).toNat = 2 ^ v - 1 := by
    rw [pwN]
    have := Nat.two_pow_pos v
    omega
  have hcast : ((x : Int) < pw (v : Int)) ↔ x < 2 ^ v := by rw [pwN]; omega
  by_cases hb : bitN m.2 j = 0
  · rw [wnF_opp hb]
    unfold winB
    rw [if_pos hb]
    unfold upT oppF
    rw [hE]
    by_cases hx2 : x < 2 ^ v
    · have hc := comp_fin ⟨v, by omega⟩ ⟨x, hx⟩ hx2
      simp only at hc
      rw [hc]
      have h2 : ((2 ^ v - 1 - x : Nat) : Int) < pw (v : Int) := by rw [pwN]; omega
      show (decide ((x : Int) < pw (v : Int)) && !(decide (((2 ^ v - 1 - x : Nat) : Int) < pw (v : Int)) && winF (ws.getD j 0) (2 ^ v - 1 - x))) = true ↔ _
      rw [decide_eq_true (hcast.2 hx2), decide_eq_true h2, Bool.true_and, Bool.true_and]
      unfold winF
      generalize (ws.getD j 0).toNat = wj
      have h3 := bitN_le wj (2 ^ v - 1 - x)
      have h4 : wj.testBit (2 ^ v - 1 - x) = decide (bitN wj (2 ^ v - 1 - x) = 1) := by
        rw [Nat.testBit_eq_decide_div_mod_eq]
        rfl
      rw [h4]
      constructor
      · intro h
        refine ⟨hx2, ?_⟩
        simp at h
        simp
        omega
      · rintro ⟨_, h⟩
        simp at h
        simp
        omega
    · rw [decide_eq_false (fun h => hx2 (hcast.1 h))]
      simp [hx2]
  · have hb1 : bitN m.2 j = 1 := by have := bitN_le m.2 j; omega
    rw [wnF_own hb1]
    unfold winB
    rw [if_neg hb]
    unfold upT winF
    have h4 : (ws.getD j 0).toNat.testBit x = decide (bitN (ws.getD j 0).toNat x = 1) := by
      rw [Nat.testBit_eq_decide_div_mod_eq]
      rfl
    rw [h4, Bool.and_eq_true, decide_eq_true_eq, decide_eq_true_eq, hcast, beq_iff_eq]
theorem cgK_lt {v : Nat} (hv : 1 ≤ v ∧ v ≤ 3) {ws : List Int} {m : Nat × Nat} : ∀ (j : Nat) {c : Nat}, cgK (v : Int) ws m j c = true → c < 8
  | 0, c, h => by
    unfold cgK at h
    rw [Bool.false_or, beq_iff_eq, pwN] at h
    have : 2 ^ v ≤ 2 ^ 3 := Nat.pow_le_pow_right (by omega) hv.2
    omega
  | j + 1, c, h => by
    by_cases hb : bitN m.1 j = 0
    · rw [cgK_no hb] at h
      exact cgK_lt hv j h
    · rw [cgK_yes (by have := bitN_le m.1 j; omega), crF_iff] at h
      obtain ⟨x, hx, y, _, _, _, rfl⟩ := h
      exact Nat.lt_of_le_of_lt Nat.and_le_left hx
theorem mt_iff {v : Nat} (hv : 1 ≤ v ∧ v ≤ 3) {ws : List Int} {m : Nat × Nat} {N : Nat} : ∀ (k j : Nat), j + k = N → ((∀ c, cgK (v : Int) ws m j c = true → mtK v ws m k j c = true) ↔ cgK (v : Int) ws m N 0 = false)
  | 0, j, hj => by
    obtain rfl : j = N := by omega
    constructor
    · intro h
      cases hc : cgK (v : Int) ws m j 0 with
      | false => rfl
      | true =>
        have := h 0 hc
        simp [mtK] at this
    · intro h c hc
      rw [mtK, decide_eq_true_eq]
      rcases Nat.eq_zero_or_pos c with e | e
      · subst e
        rw [h] at hc
        cases hc
      · exact e
  | k + 1, j, hj => by
    rw [← mt_iff hv k (j + 1) (by omega)]
    by_cases hb : bitN m.1 j = 0
    · rw [cgK_no hb]
      constructor
      · intro h c hc
        rw [← mtK_skip hb]
        exact h c hc
      · intro h c hc
        rw [mtK_skip hb]
        exact h c hc
    · have hb1 : bitN m.1 j = 1 := by have := bitN_le m.1 j; omega
      rw [cgK_yes hb1]
      constructor
      · intro h q hq
        obtain ⟨x, hx, y, hy, hcx, hwy, rfl⟩ := crF_iff.1 hq
        obtain ⟨hy2, hwin⟩ := (wn_win hv hy).1 hwy
        cases hm : mtK v ws m k (j + 1) (x &&& y) with
        | true => rfl
        | false =>
          have h1 := h x hcx
          rw [mtK_no hb1 hy2 hwin hm] at h1
          cases h1
      · intro h c hc
        refine mtK_yes hb1 fun x hx => ?_
        cases hw : winB v ws m j x with
        | false => rfl
        | true =>
          have hx8 : x < 8 := by
            have : 2 ^ v ≤ 2 ^ 3 := Nat.pow_le_pow_right (by omega) hv.2
            omega
          have h1 := h (c &&& x) (crF_iff.2 ⟨c, cgK_lt hv j hc, x, hx8, hc, (wn_win hv hx8).2 ⟨hx, hw⟩, rfl⟩)
          rw [h1]
          rfl
/-- the model's answer for a part is that of the program -/
theorem mt_none {v : Nat} (hv : 1 ≤ v ∧ v ≤ 3) {ws : List Int} {m : Nat × Nat} : mtK v ws m ws.length 0 (2 ^ v - 1) = !noneB (v : Int) ws m := by
  have h := mt_iff hv (ws := ws) (m := m) (N := ws.length) ws.length 0 (by omega)
  have h0 : ∀ c, cgK (v : Int) ws m 0 c = true ↔ c = 2 ^ v - 1 := fun c => by
    have hp := Nat.two_pow_pos v
    unfold cgK
    rw [Bool.false_or, beq_iff_eq, pwN]
    omega
  unfold noneB
  cases hc : cgK (v : Int) ws m ws.length 0 with
  | false => exact h.2 hc _ ((h0 _).2 rfl)
  | true =>
    cases hm : mtK v ws m ws.length 0 (2 ^ v - 1) with
    | false => rfl
    | true =>
      have := h.1 fun c hcc => by rw [(h0 c).1 hcc]; exact hm
      rw [hc] at this
      cases this
/-- what DoMeet answers -/
def meetR (n : Int) (zs : List Int) (v : Int) (ws : List Int) : Bool := vrB n zs v ws && !(critL n.toNat zs).any (noneB v ws)
theorem meetR_no {n v : Int} {zs ws : List Int} (h : vrB n zs v ws = false) : meetR n zs v ws = false := by unfold meetR; rw [h]; rfl
theorem meetR_yes {n v : Int} {zs ws : List Int} (h : vrB n zs v ws = true) : meetR n zs v ws = !(critL n.toNat zs).any (noneB v ws) := by unfold meetR; rw [h]; rfl
end Go.Proofs.Ytnmfhnieknckcaa

/- MtD: DoMeet of the model. -/
namespace Go.Proofs.Ytnmfhnieknckcaa
open Go.RowKit Go.Joins

theorem specVSm_was (n : Int) (a : Option Addr) (cap : Nat) (zs : List Int) (r : Bool) (w : World) (hi : Ints w a zs) (hn : zs.length ≤ 1048576) (h : vsB n zs = r) :
    Calls Try.prog 50 #[.agg #[.int .i64 n, .slice a zs.length cap]] w fun e w' => e = .returned (.bool r) ∧ Below w.heap.size w w' := by
  subst h
  exact validSpace_any n a cap zs w hi hn
theorem specVRm_was (n v : Int) (a b : Option Addr) (cap capb : Nat) (zs ws : List Int) (r : Bool) (w : World) (hi : Ints w a zs) (hj : Ints w b ws) (hm : ws.length ≤ 1048576) (h : ruleB n v ws = r) :
    Calls Try.prog 51 #[.agg #[.int .i64 n, .slice a zs.length cap], .agg #[.int .i64 v, .slice b ws.length capb]] w fun e w' => e = .returned (.bool r) ∧ Below w.heap.size w w' := by
  subst h
  exact validRule_any n v a b cap capb zs ws w hi hj hm
theorem power8_int (t p : Nat) (y : Int) (w : World) (hy : y = (t : Int)) (ht : t ≤ 8) (h : 2 ^ t = p) : Calls Try.prog 64 #[.int .i64 y] w fun e w' => e = .returned (.int .i64 (p : Int)) ∧ w = w' := by
  subst hy
  exact power8_was t p w ht h
theorem meets_was (N zn cap v capb : Nat) (a b : Option Addr) (ws : List Int) (mc mb : Nat) (r : Bool) (z : Int) (w : World) (hv : 1 ≤ v ∧ v ≤ 3) (hN : N ≤ 4) (hl : ws.length = N) (hr : ∀ x ∈ ws, 0 ≤ x ∧ x ≤ 255) (hm : mc < 16 ∧ mb < 16) (hi : Ints w b ws) (hz : z = ((2 ^ v - 1 : Nat) : Int)) (h : noneB (v : Int) ws (mc, mb) = !r) :
    Calls Try.prog 63 #[.agg #[.int .i64 (N : Int), .slice a zn cap], .agg #[.int .i64 (v : Int), .slice b N capb], .agg #[.int .i64 (mc : Int), .int .i64 (mb : Int)], .int .i64 0, .int .i64 z] w fun e w' => e = .returned (.bool r) ∧ Below w.heap.size w w' := by
  have h8 : 2 ^ v - 1 < 8 := by
    have : 2 ^ v ≤ 2 ^ 3 := Nat.pow_le_pow_right (by omega) hv.2
    have := Nat.two_pow_pos v
    omega
  have h1 := meets_any N zn cap v capb a b ws mc mb hv hN hl hr hm N 0 (2 ^ v - 1) 0 z w (by omega) h8 rfl hz hi
  have h2 : mtK v ws (mc, mb) N 0 (2 ^ v - 1) = r := by
    rw [← hl, mt_none hv, h, Bool.not_not]
  rw [h2] at h1
  exact h1
set_option maxHeartbeats 8000000 in
set_option maxRecDepth 100000 in
theorem specDoMeet_any (n v : Int) (a b : Option Addr) (cap capb : Nat) (zs ws : List Int) (w : World) (hi : Ints w a zs) (hj : Ints w b ws) (hn : zs.length ≤ 1048576) (hm : ws.length ≤ 1048576) :
    Calls Try.prog 17 #[.agg #[.int .i64 n, .slice a zs.length cap], .agg #[.int .i64 v, .slice b ws.length capb]] w fun e w' => e = .returned (.bool (meetR n zs v ws)) ∧ Below w.heap.size w w' := by
  have S0 := SR.new w n v a b zs ws cap capb 25 27 hi hj
  clear hi hj
  have HS0 := hide S0
  obtain ⟨⟨_, c0, c1⟩, ⟨_, d0, d1⟩, _⟩ := S0
  by_cases hs : vsB n zs = false
  · have HV := hide hs
    have HN := hide (meetR_no (vrB_no (v := v) (ws := ws) hs))
    clear hs
    go_enter Try.func17, Try.ntmps17
    go_wp2_with fail
    refine (specVSm_was _ _ _ _ false _ HS0.out.2.2.1 hn HV.out).mono ?_
    rintro e w1 ⟨rfl, hb⟩
    go_wp2
    go_ret
    exact ⟨ret_bool HN.out.symm, (HS0.out.below hb).2.2.2.2⟩
  · have hs : vsB n zs = true := by simpa using hs
    have HVS := hide hs
    by_cases hv : ruleB n v ws = false
    · have HV := hide hv
      have HN := hide (meetR_no (by rw [vrB_yes hs]; exact hv))
      clear hs hv
      go_enter Try.func17, Try.ntmps17
      go_wp2_with fail
      refine (specVSm_was _ _ _ _ true _ HS0.out.2.2.1 hn HVS.out).mono ?_
      rintro e w1 ⟨rfl, hb⟩
      have HS1 := hide (HS0.out.below hb)
      clear HS0 hb c0 c1 d0 d1
      have S1 := HS1.out
      obtain ⟨⟨_, c0, c1⟩, ⟨_, d0, d1⟩, _⟩ := S1
      go_wp2_with fail
      refine (specVRm_was _ _ _ _ _ _ _ _ false _ HS1.out.2.2.1 HS1.out.2.2.2.1 hm HV.out).mono ?_
      rintro e w2 ⟨rfl, hb⟩
      go_wp2
      go_ret
      exact ⟨ret_bool HN.out.symm, (HS1.out.below hb).2.2.2.2⟩
    · have hv : ruleB n v ws = true := by simpa using hv
      have HV := hide hv
      have hvr : vrB n zs v ws = true := by rw [vrB_yes hs]; exact hv
      have HN := hide (meetR_yes hvr)
      obtain ⟨hV, hr⟩ := vr_of hvr
      have hn4 := hV.1
      have hrv := hr.1
      have hrl := hr.2.1
      obtain rfl : n = (ws.length : Int) := by omega
      obtain ⟨vN, rfl⟩ : ∃ vN : Nat, v = (vN : Int) := ⟨v.toNat, by omega⟩
      have hN : 1 ≤ ws.length ∧ ws.length ≤ 4 := by omega
      have hvN : 1 ≤ vN ∧ vN ≤ 3 := by omega
      have HR := hide hr.range
      have HZR := hide (valid_range hV)
      obtain ⟨L, hL⟩ : ∃ L, L = critL ws.length zs := ⟨_, rfl⟩
      have HL := hide hL
      have hl81 : L.length ≤ 81 := by
        rw [hL]
        have h1 : (ordL ws.length).length ≤ 81 := by simpa using range5_of ord_len hN.2
        exact Nat.le_trans (List.length_filter_le _ _) h1
      have H16 : Hid (∀ p ∈ L, p.1 < 16 ∧ p.2 < 16) := fun p hp => by
        rw [hL] at hp
        exact ord_16 hN.2 (List.mem_filter.1 hp).1
      have HLL := hide (ofP_len L)
      have FND : Hid (∀ i (hi : i < L.length), noneB (vN : Int) ws L[i] = true → meetR (ws.length : Int) zs (vN : Int) ws = false) := fun i hi h => by
        rw [HN.out, Int.toNat_natCast, ← hL, List.any_eq_true.2 ⟨L[i], List.getElem_mem hi, h⟩]
        rfl
      have ALL : Hid ((∀ i (hi : i < L.length), noneB (vN : Int) ws L[i] = false) → meetR (ws.length : Int) zs (vN : Int) ws = true) := fun h => by
        rw [HN.out, Int.toNat_natCast, ← hL]
        have h1 : L.any (noneB (vN : Int) ws) = false := by
          rw [List.any_eq_false]
          intro x hx
          obtain ⟨i, hi, rfl⟩ := List.getElem_of_mem hx
          rw [h i hi]
          decide
        rw [h1]
        rfl
      clear hs hv hvr hV hr hn4 hrl hL HN
      go_enter Try.func17, Try.ntmps17
      go_wp2_with fail
      refine (specVSm_was _ _ _ _ true _ HS0.out.2.2.1 hn HVS.out).mono ?_
      rintro e w1 ⟨rfl, hb⟩
      have HS1 := hide (HS0.out.below hb)
      clear HS0 hb c0 c1 d0 d1
      have S1 := HS1.out
      obtain ⟨⟨_, c0, c1⟩, ⟨_, d0, d1⟩, _⟩ := S1
      go_wp2_with fail
      refine (specVRm_was _ _ _ _ _ _ _ _ true _ HS1.out.2.2.1 HS1.out.2.2.2.1 hm HV.out).mono ?_
      rintro e w2 ⟨rfl, hb⟩
      have HS2 := hide (HS1.out.below hb)
      clear HS1 hb c0 c1 d0 d1
      have S2 := HS2.out
      obtain ⟨⟨_, c0, c1⟩, _⟩ := S2
      go_wp2_with fail
      refine (critical_any ws.length _ _ _ _ HS2.out.2.2.1 hn hN HZR.out).mono ?_
      rintro e w3 ⟨vp, rfl, own, hb3⟩
      rw [← HL.out] at own
      obtain ⟨va, vc, hve, pin⟩ := own.form
      rw [HLL.out] at hve
      subst hve
      have PIN := hide pin
      have HS3 := hide (HS2.out.below hb3)
      clear HS2 hb3 c0 c1 own pin
      go_wp2_with fail
      go_loopw [6] (fun i wr => ∃ ii : Nat, ii ≤ L.length ∧ i = .int .i64 ii ∧ Hid (∀ i' (hi : i' < L.length), i' < ii → noneB (vN : Int) ws L[i'] = false) ∧ Below w3.heap.size w3 wr) (fun i _ => L.length - (intOf i).toNat)
      case atStart => exact ⟨0, Nat.zero_le _, rfl, fun i' hi h => by omega, Below.refl _ _⟩
      case round =>
        obtain ⟨ii, hii, rfl, hall, hbw⟩ := hrel
        have HSR := hide (HS3.out.below hbw)
        have HBW := hide hbw
        by_cases hlt : ii < L.length
        · obtain ⟨pc, hpc⟩ : ∃ pc, pc = L[ii].1 := ⟨_, rfl⟩
          obtain ⟨pb, hpb⟩ : ∃ pb, pb = L[ii].2 := ⟨_, rfl⟩
          have hm' : L[ii] = (pc, pb) := by rw [hpc, hpb]
          have h16 := H16.out L[ii] (List.getElem_mem hlt)
          rw [hm'] at h16
          obtain ⟨b1, o1, rfl, hb1, hc1⟩ := PIN.out (by rw [HLL.out]; omega)
          obtain ⟨x1, x2⟩ := hc1 ii (by rw [HLL.out]; omega)
          rw [ofP_at hlt, hm'] at x1 x2
          have z1 := (hbw.cell (p := ⟨b1, o1 + ii * 2, none⟩) (World.block_lt_of_cell? _ _ x1)).trans x1
          have z2 := (hbw.cell (p := ⟨b1, o1 + ii * 2 + 1, none⟩) (World.block_lt_of_cell? _ _ x2)).trans x2
          obtain ⟨r, hr⟩ : ∃ r, noneB (vN : Int) ws (pc, pb) = !r := ⟨!noneB (vN : Int) ws (pc, pb), (Bool.not_not _).symm⟩
          have HRR := hide hr
          have FND' : Hid (r = false → meetR (ws.length : Int) zs (vN : Int) ws = false) := fun e => FND.out ii hlt (by rw [hm', hr, e]; rfl)
          have NXT : Hid (r = true → ∀ i' (hi : i' < L.length), i' < ii + 1 → noneB (vN : Int) ws L[i'] = false) := fun e i' hi h1 => by
            rcases Nat.lt_or_ge i' ii with h2 | h2
            · exact hall.out i' hi h2
            · obtain rfl : i' = ii := by omega
              rw [hm', hr, e]
              rfl
          obtain ⟨Q, hQ⟩ : ∃ Q, 2 ^ vN = Q := ⟨_, rfl⟩
          have hQ8 : 1 ≤ Q ∧ Q ≤ 8 := by
            rw [← hQ]
            have : 2 ^ vN ≤ 2 ^ 3 := Nat.pow_le_pow_right (by omega) hvN.2
            have := Nat.two_pow_pos vN
            omega
          have HZ : Hid (IntKind.i64.wrap ((Q : Int) - 1) = ((2 ^ vN - 1 : Nat) : Int)) := by
            unfold Hid
            rw [hQ, IntWalk.i64_in _ (by omega)]
            omega
          have HQ := hide hQ
          have hv8 : vN ≤ 8 := by omega
          have H16m := hide h16
          have SR3 := HSR.out
          obtain ⟨⟨_, c0, c1⟩, ⟨_, d0, d1⟩, _⟩ := SR3
          have ID := hide (HSR.out.2.2.2.1.below (bdrew' (Below.refl _ _)))
          clear x1 x2 hc1 hb1 hpc hpb hm' hbw hall hr hQ h16
          go_wp2_with fail
          go_region_held3 (fun w' => w'.cell? ⟨w.heap.size, 0, none⟩ = some (.int .i64 (ws.length : Int)) ∧ w'.cell? ⟨w.heap.size, 1, none⟩ = some (.slice a zs.length cap) ∧ w'.cell? ⟨w.heap.size + 1, 0, none⟩ = some (.int .i64 (vN : Int)) ∧ w'.cell? ⟨w.heap.size + 1, 1, none⟩ = some (.slice b ws.length capb) ∧ w'.cell? ⟨b1, o1 + ii * 2, none⟩ = some (.int .i64 (pc : Int)) ∧ w'.cell? ⟨b1, o1 + ii * 2 + 1, none⟩ = some (.int .i64 (pb : Int))) (first | go_keep | exact HK5.out)
            ((first
              | (go_at_call 64; (with_reducible refine (power8_int vN Q _ _ rfl hv8 HQ.out).mono ?_); rintro e w' ⟨rfl, rfl⟩)
              | (go_at_call 63; (with_reducible refine (meets_was ws.length zs.length cap vN capb a b ws pc pb r _ _ hvN hN.2 rfl HR.out H16m.out ID.out HZ.out HRR.out).mono ?_); rintro e w5 ⟨rfl, b5⟩; have HK5 := hide (show w5.cell? ⟨w.heap.size, 0, none⟩ = some (.int .i64 (ws.length : Int)) ∧ w5.cell? ⟨w.heap.size, 1, none⟩ = some (.slice a zs.length cap) ∧ w5.cell? ⟨w.heap.size + 1, 0, none⟩ = some (.int .i64 (vN : Int)) ∧ w5.cell? ⟨w.heap.size + 1, 1, none⟩ = some (.slice b ws.length capb) ∧ w5.cell? ⟨b1, o1 + ii * 2, none⟩ = some (.int .i64 (pc : Int)) ∧ w5.cell? ⟨b1, o1 + ii * 2 + 1, none⟩ = some (.int .i64 (pb : Int)) from ⟨(b5.cell (p := ⟨w.heap.size, 0, none⟩) (World.block_lt_of_cell? _ _ (by assumption))).trans (by assumption), (b5.cell (p := ⟨w.heap.size, 1, none⟩) (World.block_lt_of_cell? _ _ (by assumption))).trans (by assumption), (b5.cell (p := ⟨w.heap.size + 1, 0, none⟩) (World.block_lt_of_cell? _ _ (by assumption))).trans (by assumption), (b5.cell (p := ⟨w.heap.size + 1, 1, none⟩) (World.block_lt_of_cell? _ _ (by assumption))).trans (by assumption), (b5.cell (p := ⟨b1, o1 + ii * 2, none⟩) (World.block_lt_of_cell? _ _ (by assumption))).trans (by assumption), (b5.cell (p := ⟨b1, o1 + ii * 2 + 1, none⟩) (World.block_lt_of_cell? _ _ (by assumption))).trans (by assumption)⟩))))
          all_goals
            have B6 := hide (bnext HBW.out (bdrew b5))
            cases r with
            | false =>
              go_wp2_with fail
              go_ret
              exact ⟨ret_bool (FND'.out (by first | rfl | trivial)).symm, bnext HS3.out.2.2.2.2 B6.out⟩
            | true =>
              go_wp2_with fail
              go_roundw
              case rel => exact ⟨ii + 1, by omega, by go_num, NXT.out (by first | rfl | trivial), B6.out⟩
              case measure => simp only [intOf]; omega
        · obtain rfl : ii = L.length := by omega
          go_wp2_with fail
          go_ret
          exact ⟨ret_bool (ALL.out fun i hi => hall.out i hi hi).symm, HSR.out.2.2.2.2⟩
end Go.Proofs.Ytnmfhnieknckcaa

/- MtJ: DoMeet of the program. -/
namespace Go.Proofs.Ytnmfhnieknckcaa
open Go.RowKit Go.Joins

theorem implVR_was (n v : Int) (a b : Option Addr) (cap capb : Nat) (zs ws : List Int) (r : Bool) (w : World) (hi : Ints w a zs) (hj : Ints w b ws) (hn : zs.length ≤ 1048576) (hm : ws.length ≤ 1048576) (h : vrB n zs v ws = r) :
    Calls Try.prog 13 #[.agg #[.int .i64 n, .slice a zs.length cap], .agg #[.int .i64 v, .slice b ws.length capb]] w fun e w' => e = .returned (.bool r) ∧ Below w.heap.size w w' := by
  subst h
  exact implValidRule_any n v a b cap capb zs ws w hi hj hn hm
set_option maxHeartbeats 4000000 in
set_option maxRecDepth 100000 in
theorem implDoMeet_any (n v : Int) (a b : Option Addr) (cap capb : Nat) (zs ws : List Int) (w : World) (hi : Ints w a zs) (hj : Ints w b ws) (hn : zs.length ≤ 1048576) (hm : ws.length ≤ 1048576) :
    Calls Try.prog 15 #[.agg #[.int .i64 n, .slice a zs.length cap], .agg #[.int .i64 v, .slice b ws.length capb]] w fun e w' => e = .returned (.bool (meetR n zs v ws)) ∧ Below w.heap.size w w' := by
  have S0 := SR.new w n v a b zs ws cap capb 25 27 hi hj
  clear hi hj
  have HS0 := hide S0
  obtain ⟨⟨_, c0, c1⟩, ⟨_, d0, d1⟩, _⟩ := S0
  by_cases hv : vrB n zs v ws = false
  · have HV := hide hv
    have HN := hide (meetR_no hv)
    clear hv
    go_enter Try.func15, Try.ntmps15
    go_wp2_with fail
    refine (implVR_was _ _ _ _ _ _ _ _ _ _ HS0.out.2.2.1 HS0.out.2.2.2.1 hn hm HV.out).mono ?_
    rintro e w1 ⟨rfl, hb⟩
    go_wp2
    go_ret
    exact ⟨ret_bool HN.out.symm, (HS0.out.below hb).2.2.2.2⟩
  · have hv : vrB n zs v ws = true := by simpa using hv
    have HV := hide hv
    have HN := hide (meetR_yes hv)
    obtain ⟨hV, hr⟩ := vr_of hv
    have hn4 := hV.1
    have hrv := hr.1
    have hrl := hr.2.1
    have HR := hide hr.range
    have hw4 : ws.length ≤ 4 := by omega
    obtain ⟨L, hL⟩ : ∃ L, L = critL n.toNat zs := ⟨_, rfl⟩
    have HCR : Hid (crR n zs = ofP L) := by unfold Hid; rw [crR_yes (vsB_true hV), hL]
    have hN4 : n.toNat ≤ 4 := by omega
    have hl81 : L.length ≤ 81 := by
      rw [hL]
      have h1 : (ordL n.toNat).length ≤ 81 := by simpa using range5_of ord_len hN4
      exact Nat.le_trans (List.length_filter_le _ _) h1
    have H16 : Hid (∀ p ∈ L, p.1 < 16 ∧ p.2 < 16) := fun p hp => by
      rw [hL] at hp
      exact ord_16 hN4 (List.mem_filter.1 hp).1
    have HLL := hide (ofP_len L)
    rw [← hL] at HN
    obtain ⟨r, hrr⟩ : ∃ r, L.any (noneB v ws) = r := ⟨_, rfl⟩
    rw [hrr] at HN
    have HRR := hide hrr
    have HRV := hide hrv
    clear hv hV hr hL hrr hn4 hrl
    go_enter Try.func15, Try.ntmps15
    go_wp2_with fail
    refine (implVR_was _ _ _ _ _ _ _ _ _ _ HS0.out.2.2.1 HS0.out.2.2.2.1 hn hm HV.out).mono ?_
    rintro e w1 ⟨rfl, hb⟩
    have HS1 := hide (HS0.out.below hb)
    clear HS0 hb c0 c1 d0 d1
    have S1 := HS1.out
    obtain ⟨⟨_, c0, c1⟩, ⟨_, d0, d1⟩, _⟩ := S1
    go_wp2_with fail
    refine (implCriticalParts_any _ _ _ _ _ HS1.out.2.2.1 hn).mono ?_
    rintro e w2 ⟨vp, rfl, own, hb⟩
    rw [HCR.out] at own
    obtain ⟨va, vc, hve, pin⟩ := own.form
    rw [HLL.out] at hve
    subst hve
    have HS2 := hide (HS1.out.below hb)
    have PIN := hide pin
    clear HS1 hb c0 c1 d0 d1 own pin
    have S2 := HS2.out
    obtain ⟨_, ⟨_, d0, d1⟩, _⟩ := S2
    go_wp2_with fail
    refine (containsFuncM_any v b ws capb _ va vc L r _ PIN.out (by omega) H16.out HRV.out HS2.out.2.2.2.1 hw4 HR.out d0 d1 HRR.out).mono ?_
    rintro e w3 ⟨rfl, hb⟩
    go_wp2
    go_ret
    exact ⟨ret_bool HN.out.symm, (HS2.out.below hb).2.2.2.2⟩
end Go.Proofs.Ytnmfhnieknckcaa

/- SmM: Safe rules and groups that meet: the groups that agree with a part. -/
namespace Go.Proofs.Ytnmfhnieknckcaa
open Go.RowKit Go.Joins

/-- the voters that answer an issue as a part does -/
def agN (v : Nat) (m : Nat × Nat) (vs : List Int) (j : Nat) : Nat := if bitN m.2 j = 0 then 2 ^ v - 1 - groupK vs j v else groupK vs j v
theorem agN_lt (v : Nat) (m : Nat × Nat) (vs : List Int) (j : Nat) : agN v m vs j < 2 ^ v := by
  have h := groupK_lt vs j v
  have := Nat.two_pow_pos v
  unfold agN
  split <;> omega
/-- they win exactly if the answer is the part's -/
theorem win_ag (v : Nat) (ws : List Int) (m : Nat × Nat) (vs : List Int) (j : Nat) : winB v ws m j (agN v m vs j) = (bitN (ws.getD j 0).toNat (groupK vs j v) == bitN m.2 j) := by
  have h := groupK_lt vs j v
  have hb := bitN_le m.2 j
  unfold winB agN
  by_cases e : bitN m.2 j = 0
  · rw [if_pos e, if_pos e, e, show 2 ^ v - 1 - (2 ^ v - 1 - groupK vs j v) = groupK vs j v from by omega]
  · rw [if_neg e, if_neg e, show bitN m.2 j = 1 from by omega]
/-- the voters that answer all issues of a part from one on as it does -/
def andA (v : Nat) (m : Nat × Nat) (vs : List Int) : Nat → Nat → Nat → Nat
  | 0, _, c => c
  | k + 1, j, c => if bitN m.1 j = 0 then andA v m vs k (j + 1) c else andA v m vs k (j + 1) (c &&& agN v m vs j)
theorem mt_and {v : Nat} {ws : List Int} {m : Nat × Nat} {vs : List Int} : ∀ (k j c : Nat), mtK v ws m k j c = true → (∀ i, j ≤ i → i < j + k → bitN m.1 i = 1 → winB v ws m i (agN v m vs i) = true) → 0 < andA v m vs k j c
  | 0, j, c, h, _ => by simpa [mtK, andA] using h
  | k + 1, j, c, h, hw => by
    by_cases hb : bitN m.1 j = 0
    · rw [mtK_skip hb] at h
      rw [andA, if_pos hb]
      exact mt_and k (j + 1) c h fun i h1 h2 h3 => hw i (by omega) (by omega) h3
    · have hb1 : bitN m.1 j = 1 := by have := bitN_le m.1 j; omega
      rw [andA, if_neg hb]
      have hwin := hw j (Nat.le_refl _) (by omega) hb1
      refine mt_and k (j + 1) (c &&& agN v m vs j) ?_ fun i h1 h2 h3 => hw i (by omega) (by omega) h3
      cases hm : mtK v ws m k (j + 1) (c &&& agN v m vs j) with
      | true => rfl
      | false =>
        rw [mtK_no hb1 (agN_lt v m vs j) hwin hm] at h
        cases h
/-- a voter of these answers each of the issues so -/
theorem andA_bit {v : Nat} {m : Nat × Nat} {vs : List Int} {i : Nat} : ∀ (k j c : Nat), (andA v m vs k j c).testBit i = true → c.testBit i = true ∧ ∀ t, j ≤ t → t < j + k → bitN m.1 t = 1 → (agN v m vs t).testBit i = true
  | 0, j, c, h => ⟨h, fun t h1 h2 => by omega⟩
  | k + 1, j, c, h => by
    rw [andA] at h
    by_cases hb : bitN m.1 j = 0
    · rw [if_pos hb] at h
      obtain ⟨h1, h2⟩ := andA_bit k (j + 1) c h
      refine ⟨h1, fun t h3 h4 h5 => ?_⟩
      rcases Nat.eq_or_lt_of_le h3 with e | e
      · subst e
        rw [hb] at h5
        cases h5
      · exact h2 t e (by omega) h5
    · rw [if_neg hb] at h
      obtain ⟨h1, h2⟩ := andA_bit k (j + 1) _ h
      rw [Nat.testBit_and, Bool.and_eq_true] at h1
      refine ⟨h1.1, fun t h3 h4 h5 => ?_⟩
      rcases Nat.eq_or_lt_of_le h3 with e | e
      · subst e
        exact h1.2
      · exact h2 t e (by omega) h5
theorem groupK_bitS (vs : List Int) (j : Nat) : ∀ k i, i < k → bitN (groupK vs j k) i = bitN (vs.getD i 0).toNat j
  | 0, i, h => by omega
  | k + 1, i, h => by
    have hb := bitN_le (vs.getD k 0).toNat j
    have hlt := groupK_lt vs j k
    rw [groupK]
    rcases Nat.lt_or_ge i k with h1 | h1
    · rw [← groupK_bitS vs j k i h1]
      unfold bitN
      have e : (groupK vs j k + 2 ^ k * bitN (vs.getD k 0).toNat j) = groupK vs j k + 2 ^ i * (2 * (2 ^ (k - i - 1) * bitN (vs.getD k 0).toNat j)) := by
        have e2 : 2 ^ k = 2 ^ i * (2 * 2 ^ (k - i - 1)) := by
          rw [← Nat.pow_succ', ← Nat.pow_add]
          congr 1
          omega
        rw [e2, Nat.mul_assoc, Nat.mul_assoc]
      show (groupK vs j k + 2 ^ k * bitN (vs.getD k 0).toNat j) / 2 ^ i % 2 = _
      rw [e, Nat.add_mul_div_left _ _ (Nat.two_pow_pos i), Nat.add_mul_mod_self_left]
    · obtain rfl : i = k := by omega
      show (groupK vs j i + 2 ^ i * bitN (vs.getD i 0).toNat j) / 2 ^ i % 2 = _
      rw [Nat.add_mul_div_left _ _ (Nat.two_pow_pos i), Nat.div_eq_of_lt hlt, Nat.zero_add]
      have := bitN_le (vs.getD i 0).toNat j
      omega
theorem bitS (a k : Nat) : a.testBit k = decide (bitN a k = 1) := by rw [Nat.testBit_eq_decide_div_mod_eq]; rfl
theorem compS : ∀ v : Fin 4, ∀ g : Fin 8, ∀ i : Fin 3, g.val < 2 ^ v.val → i.val < v.val → (2 ^ v.val - 1 - g.val).testBit i.val = !g.val.testBit i.val := by decide +kernel
/-- a voter is among them exactly if he answers as the part does -/
theorem agN_bit {v : Nat} (hv : v ≤ 3) (m : Nat × Nat) (vs : List Int) (j : Nat) {i : Nat} (hi : i < v) : (agN v m vs j).testBit i = (bitN (vs.getD i 0).toNat j == bitN m.2 j) := by
  have h := groupK_lt vs j v
  have hb := bitN_le m.2 j
  have hg := groupK_bitS vs j v i hi
  have h8 : 2 ^ v ≤ 8 := by
    have : 2 ^ v ≤ 2 ^ 3 := Nat.pow_le_pow_right (by omega) hv
    omega
  have hx := bitN_le (vs.getD i 0).toNat j
  unfold agN
  by_cases e : bitN m.2 j = 0
  · rw [if_pos e, e]
    have hc := compS ⟨v, by omega⟩ ⟨groupK vs j v, by omega⟩ ⟨i, by omega⟩ h hi
    simp only at hc
    rw [hc, bitS, hg]
    rcases (show bitN (vs.getD i 0).toNat j = 0 ∨ bitN (vs.getD i 0).toNat j = 1 from by omega) with e2 | e2 <;> rw [e2] <;> rfl
  · rw [if_neg e, show bitN m.2 j = 1 from by omega, bitS, hg]
    rcases (show bitN (vs.getD i 0).toNat j = 0 ∨ bitN (vs.getD i 0).toNat j = 1 from by omega) with e2 | e2 <;> rw [e2] <;> rfl
end Go.Proofs.Ytnmfhnieknckcaa
