/- Sets of groups: what tableOf gives, and the functions over sets; whether something holds of each issue's set. -/
import Derived.Test.YtbmodiobgkmngaaTab
import Derived.Test.YtbmodiobgkmngaaBits
import Derived.Deep.RegionHeld3
import Derived.Outline
namespace Go.Proofs.Ytbmodiobgkmngaa
open Go.RowKit Go.Joins

theorem and_gen (a b : Nat) (ha : a < 4294967296) (hb : b < 4294967296) : bits .and .i64 (a : Int) (b : Int) = ((a &&& b : Nat) : Int) := by
  have hx : a &&& b ≤ a := Nat.and_le_left
  show IntKind.i64.wrap ((BitVec.ofInt 64 (a : Int) &&& BitVec.ofInt 64 (b : Int)).toNat : Int) = _
  rw [BitVec.toNat_and, ofInt_small a (by omega), ofInt_small b (by omega), IntKind.wrap_i64]
  omega
theorem or_gen (a b : Nat) (ha : a < 65536) (hb : b < 65536) : bits .or .i64 (a : Int) (b : Int) = ((a ||| b : Nat) : Int) := by
  have hx : a ||| b < 2 ^ 16 := Nat.or_lt_two_pow (by omega) (by omega)
  show IntKind.i64.wrap ((BitVec.ofInt 64 (a : Int) ||| BitVec.ofInt 64 (b : Int)).toNat : Int) = _
  rw [BitVec.toNat_or, ofInt_small a (by omega), ofInt_small b (by omega), IntKind.wrap_i64]
  omega
theorem xor_gen (a b : Nat) (ha : a < 65536) (hb : b < 65536) : bits .xor .i64 (a : Int) (b : Int) = ((a ^^^ b : Nat) : Int) := by
  have hx : a ^^^ b < 2 ^ 16 := Nat.xor_lt_two_pow (by omega) (by omega)
  show IntKind.i64.wrap ((BitVec.ofInt 64 (a : Int) ^^^ BitVec.ofInt 64 (b : Int)).toNat : Int) = _
  rw [BitVec.toNat_xor, ofInt_small a (by omega), ofInt_small b (by omega), IntKind.wrap_i64]
  omega
theorem shr_and (x : Int) (k : Nat) (h : 0 ≤ x ∧ x ≤ 65535) : bits .and .i64 (x / 2 ^ k) 1 = ((x.toNat / 2 ^ k % 2 : Nat) : Int) := by
  obtain ⟨a, rfl⟩ := Int.eq_ofNat_of_zero_le h.1
  have e : ((a : Int) / 2 ^ k) = ((a / 2 ^ k : Nat) : Int) := by simp
  have hle : a / 2 ^ k ≤ a := Nat.div_le_self _ _
  rw [e, show (1 : Int) = ((1 : Nat) : Int) from rfl, and_gen _ _ (by omega) (by omega), Nat.and_one_is_mod]
  simp
theorem testBit_eq (a k : Nat) : a.testBit k = decide (a / 2 ^ k % 2 = 1) := by rw [Nat.testBit_eq_decide_div_mod_eq]
theorem shr_bit (x : Int) (k : Nat) (h : 0 ≤ x ∧ x ≤ 65535) : (bits .and .i64 (x / 2 ^ k) 1 == 1) = x.toNat.testBit k := by
  rw [shr_and x k h, testBit_eq, Bool.eq_iff_iff, beq_iff_eq, decide_eq_true_iff]
  omega

/-- the answers of the groups of so many voters, no others -/
def upT (v : Int) (f : Nat → Bool) (j : Nat) : Bool := decide ((j : Int) < pw v) && f j
theorem pt_up (v : Int) (k : Nat) (f : Nat → Bool) (h : (k : Int) = pw v) (j : Nat) : pt k f j = upT v f j := by
  unfold pt upT
  congr 1
  rw [← h]
  simp
/-- the groups of a sum -/
def winF (x : Int) (k : Nat) : Bool := x.toNat.testBit k
/-- the groups with a voter -/
def memF (i : Int) (k : Nat) : Bool := k.testBit i.toNat
/-- the groups for which that of the others is not in the set -/
def oppF (v : Int) (f : Nat → Bool) (k : Nat) : Bool := !f ((pw v - 1).toNat ^^^ k)
/-- the groups that have all of one of the set -/
def grownF (f : Nat → Bool) (k : Nat) : Bool := (List.range 8).any fun l => f l && (l &&& k == l)

set_option maxHeartbeats 1000000 in
theorem tableOfW_any (f : Nat → Bool) (v : Int) (g : Nat) (w : World) (hv : 1 ≤ v ∧ v ≤ 3)
    (hf : ∀ (k : Nat) (w' : World), (k : Int) < pw v → Below w.heap.size w w' → Calls Try.prog 78 #[.int .i64 k, .pointer (some ⟨g, 0, none⟩)] w' fun e w'' => e = .returned (.bool (f k)) ∧ Below w'.heap.size w' w'') :
    Calls Try.prog 69 #[.int .i64 v, .func (.func 78) #[] #[.pointer (some ⟨g, 0, none⟩)]] w fun e w' => e = .returned (.agg #[Value.bool (upT v f 0), Value.bool (upT v f 1), Value.bool (upT v f 2), Value.bool (upT v f 3), Value.bool (upT v f 4), Value.bool (upT v f 5), Value.bool (upT v f 6), Value.bool (upT v f 7)]) ∧ Below w.heap.size w w' := by
  have HF := hide hf
  clear hf
  have p1 := pw_pos v
  have p2 := pw_le3 v hv.2
  have h1 := hv.1
  go_enter Try.func69, Try.ntmps69
  go_wp2_with fail
  rw [wrap_pow v (by omega)]
  go_loopw [9] (fun i wr => ∃ k : Nat, (k : Int) ≤ pw v ∧ i = .int .i64 k ∧ wr.heap[w.heap.size]? = some (.cells #[Value.bool (pt 0 f 0), Value.bool (pt 0 f 1), Value.bool (pt 0 f 2), Value.bool (pt 0 f 3), Value.bool (pt 0 f 4), Value.bool (pt 0 f 5), Value.bool (pt 0 f 6), Value.bool (pt 0 f 7)] 60 (0, 0)) ∧
      wr.heap[w.heap.size + 1]? = some (.cells #[Value.bool (pt k f 0), Value.bool (pt k f 1), Value.bool (pt k f 2), Value.bool (pt k f 3), Value.bool (pt k f 4), Value.bool (pt k f 5), Value.bool (pt k f 6), Value.bool (pt k f 7)] 60 (0, 0)) ∧ Below w.heap.size w wr) (fun i _ => 8 - (intOf i).toNat)
  case atStart => exact ⟨0, by omega, rfl, blk_below (pt_start w f _) (bel1 _ _), by have h := pt_start (w.alloc (.cells #[.bool false, .bool false, .bool false, .bool false, .bool false, .bool false, .bool false, .bool false] 60)) f 60; rwa [World.size_alloc] at h, bel2 _ _ _⟩
  case round =>
    obtain ⟨k, hk, rfl, hr, ht, hb⟩ := hrel
    by_cases hlt : (k : Int) < pw v
    · have hk8 : k < 8 := by omega
      have HR := hide hr
      have HT := hide ht
      have HB := hide hb
      have hlb := lt_blk ht
      clear hr ht hb
      go_wp2_with fail
      refine (HF.out _ _ hlt HB.out).mono ?_
      rintro e w1 ⟨rfl, hb1⟩
      have ht1 := blk_below HT.out hb1
      have hck := (Tab.of ht1).at k hk8
      have hfz := free_blk ht1 k
      have HT1 := hide ht1
      clear ht1
      go_wp2
      go_roundw
      case rel => exact ⟨k + 1, by omega, by go_num, (heap_setCell_other _ _ _ _ (by simp)).trans (blk_below HR.out hb1), pt_blk hk8 HT1.out, (bnext HB.out hb1).setCell (by simp) _⟩
      case measure => simp only [intOf]; omega
    · have hkv : (k : Int) = pw v := by omega
      have ⟨_, t0, t1, t2, t3, t4, t5, t6, t7⟩ := Tab.of ht
      have ⟨hrl, r0, r1, r2, r3, r4, r5, r6, r7⟩ := Tab.of hr
      have fz := free_blk hr
      have HR := hide hr
      have HT := hide ht
      have HKV := hide hkv
      clear hkv ht hr
      go_wp2
      refine bodyPost_ret (v := .agg #[Value.bool (pt k f 0), Value.bool (pt k f 1), Value.bool (pt k f 2), Value.bool (pt k f 3), Value.bool (pt k f 4), Value.bool (pt k f 5), Value.bool (pt k f 6), Value.bool (pt k f 7)]) (ret_arr (p := 4) rfl _ _ w.heap.size _ _ _ _ _ _ _ _ _ rfl (set8_blk HR.out _ _ _ _ _ _ _ _)) rfl ⟨?_, set8_below hb (Nat.le_refl _) _ _ _ _ _ _ _ _⟩
      simp only [pt_up v k f HKV.out]

set_option maxHeartbeats 1000000 in
theorem tableOfM_any (f : Nat → Bool) (v : Int) (g : Nat) (w : World) (hv : 1 ≤ v ∧ v ≤ 3)
    (hf : ∀ (k : Nat) (w' : World), (k : Int) < pw v → Below w.heap.size w w' → Calls Try.prog 70 #[.int .i64 k, .pointer (some ⟨g, 0, none⟩)] w' fun e w'' => e = .returned (.bool (f k)) ∧ Below w'.heap.size w' w'') :
    Calls Try.prog 69 #[.int .i64 v, .func (.func 70) #[] #[.pointer (some ⟨g, 0, none⟩)]] w fun e w' => e = .returned (.agg #[Value.bool (upT v f 0), Value.bool (upT v f 1), Value.bool (upT v f 2), Value.bool (upT v f 3), Value.bool (upT v f 4), Value.bool (upT v f 5), Value.bool (upT v f 6), Value.bool (upT v f 7)]) ∧ Below w.heap.size w w' := by
  have HF := hide hf
  clear hf
  have p1 := pw_pos v
  have p2 := pw_le3 v hv.2
  have h1 := hv.1
  go_enter Try.func69, Try.ntmps69
  go_wp2_with fail
  rw [wrap_pow v (by omega)]
  go_loopw [9] (fun i wr => ∃ k : Nat, (k : Int) ≤ pw v ∧ i = .int .i64 k ∧ wr.heap[w.heap.size]? = some (.cells #[Value.bool (pt 0 f 0), Value.bool (pt 0 f 1), Value.bool (pt 0 f 2), Value.bool (pt 0 f 3), Value.bool (pt 0 f 4), Value.bool (pt 0 f 5), Value.bool (pt 0 f 6), Value.bool (pt 0 f 7)] 60 (0, 0)) ∧
      wr.heap[w.heap.size + 1]? = some (.cells #[Value.bool (pt k f 0), Value.bool (pt k f 1), Value.bool (pt k f 2), Value.bool (pt k f 3), Value.bool (pt k f 4), Value.bool (pt k f 5), Value.bool (pt k f 6), Value.bool (pt k f 7)] 60 (0, 0)) ∧ Below w.heap.size w wr) (fun i _ => 8 - (intOf i).toNat)
  case atStart => exact ⟨0, by omega, rfl, blk_below (pt_start w f _) (bel1 _ _), by have h := pt_start (w.alloc (.cells #[.bool false, .bool false, .bool false, .bool false, .bool false, .bool false, .bool false, .bool false] 60)) f 60; rwa [World.size_alloc] at h, bel2 _ _ _⟩
  case round =>
    obtain ⟨k, hk, rfl, hr, ht, hb⟩ := hrel
    by_cases hlt : (k : Int) < pw v
    · have hk8 : k < 8 := by omega
      have HR := hide hr
      have HT := hide ht
      have HB := hide hb
      have hlb := lt_blk ht
      clear hr ht hb
      go_wp2_with fail
      refine (HF.out _ _ hlt HB.out).mono ?_
      rintro e w1 ⟨rfl, hb1⟩
      have ht1 := blk_below HT.out hb1
      have hck := (Tab.of ht1).at k hk8
      have hfz := free_blk ht1 k
      have HT1 := hide ht1
      clear ht1
      go_wp2
      go_roundw
      case rel => exact ⟨k + 1, by omega, by go_num, (heap_setCell_other _ _ _ _ (by simp)).trans (blk_below HR.out hb1), pt_blk hk8 HT1.out, (bnext HB.out hb1).setCell (by simp) _⟩
      case measure => simp only [intOf]; omega
    · have hkv : (k : Int) = pw v := by omega
      have ⟨_, t0, t1, t2, t3, t4, t5, t6, t7⟩ := Tab.of ht
      have ⟨hrl, r0, r1, r2, r3, r4, r5, r6, r7⟩ := Tab.of hr
      have fz := free_blk hr
      have HR := hide hr
      have HT := hide ht
      have HKV := hide hkv
      clear hkv ht hr
      go_wp2
      refine bodyPost_ret (v := .agg #[Value.bool (pt k f 0), Value.bool (pt k f 1), Value.bool (pt k f 2), Value.bool (pt k f 3), Value.bool (pt k f 4), Value.bool (pt k f 5), Value.bool (pt k f 6), Value.bool (pt k f 7)]) (ret_arr (p := 4) rfl _ _ w.heap.size _ _ _ _ _ _ _ _ _ rfl (set8_blk HR.out _ _ _ _ _ _ _ _)) rfl ⟨?_, set8_below hb (Nat.le_refl _) _ _ _ _ _ _ _ _⟩
      simp only [pt_up v k f HKV.out]

set_option maxHeartbeats 1000000 in
theorem tableOfG_any (f : Nat → Bool) (v : Int) (g : Nat) (w : World) (hv : 1 ≤ v ∧ v ≤ 3)
    (hf : ∀ (k : Nat) (w' : World), (k : Int) < pw v → Below w.heap.size w w' → Calls Try.prog 84 #[.int .i64 k, .pointer (some ⟨g, 0, none⟩)] w' fun e w'' => e = .returned (.bool (f k)) ∧ Below w'.heap.size w' w'') :
    Calls Try.prog 69 #[.int .i64 v, .func (.func 84) #[] #[.pointer (some ⟨g, 0, none⟩)]] w fun e w' => e = .returned (.agg #[Value.bool (upT v f 0), Value.bool (upT v f 1), Value.bool (upT v f 2), Value.bool (upT v f 3), Value.bool (upT v f 4), Value.bool (upT v f 5), Value.bool (upT v f 6), Value.bool (upT v f 7)]) ∧ Below w.heap.size w w' := by
  have HF := hide hf
  clear hf
  have p1 := pw_pos v
  have p2 := pw_le3 v hv.2
  have h1 := hv.1
  go_enter Try.func69, Try.ntmps69
  go_wp2_with fail
  rw [wrap_pow v (by omega)]
  go_loopw [9] (fun i wr => ∃ k : Nat, (k : Int) ≤ pw v ∧ i = .int .i64 k ∧ wr.heap[w.heap.size]? = some (.cells #[Value.bool (pt 0 f 0), Value.bool (pt 0 f 1), Value.bool (pt 0 f 2), Value.bool (pt 0 f 3), Value.bool (pt 0 f 4), Value.bool (pt 0 f 5), Value.bool (pt 0 f 6), Value.bool (pt 0 f 7)] 60 (0, 0)) ∧
      wr.heap[w.heap.size + 1]? = some (.cells #[Value.bool (pt k f 0), Value.bool (pt k f 1), Value.bool (pt k f 2), Value.bool (pt k f 3), Value.bool (pt k f 4), Value.bool (pt k f 5), Value.bool (pt k f 6), Value.bool (pt k f 7)] 60 (0, 0)) ∧ Below w.heap.size w wr) (fun i _ => 8 - (intOf i).toNat)
  case atStart => exact ⟨0, by omega, rfl, blk_below (pt_start w f _) (bel1 _ _), by have h := pt_start (w.alloc (.cells #[.bool false, .bool false, .bool false, .bool false, .bool false, .bool false, .bool false, .bool false] 60)) f 60; rwa [World.size_alloc] at h, bel2 _ _ _⟩
  case round =>
    obtain ⟨k, hk, rfl, hr, ht, hb⟩ := hrel
    by_cases hlt : (k : Int) < pw v
    · have hk8 : k < 8 := by omega
      have HR := hide hr
      have HT := hide ht
      have HB := hide hb
      have hlb := lt_blk ht
      clear hr ht hb
      go_wp2_with fail
      refine (HF.out _ _ hlt HB.out).mono ?_
      rintro e w1 ⟨rfl, hb1⟩
      have ht1 := blk_below HT.out hb1
      have hck := (Tab.of ht1).at k hk8
      have hfz := free_blk ht1 k
      have HT1 := hide ht1
      clear ht1
      go_wp2
      go_roundw
      case rel => exact ⟨k + 1, by omega, by go_num, (heap_setCell_other _ _ _ _ (by simp)).trans (blk_below HR.out hb1), pt_blk hk8 HT1.out, (bnext HB.out hb1).setCell (by simp) _⟩
      case measure => simp only [intOf]; omega
    · have hkv : (k : Int) = pw v := by omega
      have ⟨_, t0, t1, t2, t3, t4, t5, t6, t7⟩ := Tab.of ht
      have ⟨hrl, r0, r1, r2, r3, r4, r5, r6, r7⟩ := Tab.of hr
      have fz := free_blk hr
      have HR := hide hr
      have HT := hide ht
      have HKV := hide hkv
      clear hkv ht hr
      go_wp2
      refine bodyPost_ret (v := .agg #[Value.bool (pt k f 0), Value.bool (pt k f 1), Value.bool (pt k f 2), Value.bool (pt k f 3), Value.bool (pt k f 4), Value.bool (pt k f 5), Value.bool (pt k f 6), Value.bool (pt k f 7)]) (ret_arr (p := 4) rfl _ _ w.heap.size _ _ _ _ _ _ _ _ _ rfl (set8_blk HR.out _ _ _ _ _ _ _ _)) rfl ⟨?_, set8_below hb (Nat.le_refl _) _ _ _ _ _ _ _ _⟩
      simp only [pt_up v k f HKV.out]


theorem winnersOf1_any (x : Int) (k g : Nat) (w : World) (hx : 0 ≤ x ∧ x ≤ 255) (hk : k < 8) (c0 : w.cell? ⟨g, 0, none⟩ = some (.int .i64 x)) :
    Calls Try.prog 78 #[.int .i64 k, .pointer (some ⟨g, 0, none⟩)] w fun e w' => e = .returned (.bool (winF x k)) ∧ Below w.heap.size w w' := by
  have HX : Hid (0 ≤ x ∧ x ≤ 65535) := ⟨hx.1, by omega⟩
  go_enter Try.func78, Try.ntmps78
  go_wp2
  go_ret
  exact ⟨ret_bool (by rw [shr_bit x k HX.out]; rfl), Below.refl _ _⟩
set_option maxHeartbeats 1000000 in
theorem winnersOf_any (v x : Int) (w : World) (hv : 1 ≤ v ∧ v ≤ 3) (hx : 0 ≤ x ∧ x ≤ 255) :
    Calls Try.prog 54 #[.int .i64 v, .int .i64 x] w fun e w' => e = .returned (.agg #[Value.bool (upT v (winF x) 0), Value.bool (upT v (winF x) 1), Value.bool (upT v (winF x) 2), Value.bool (upT v (winF x) 3), Value.bool (upT v (winF x) 4), Value.bool (upT v (winF x) 5), Value.bool (upT v (winF x) 6), Value.bool (upT v (winF x) 7)]) ∧ Below w.heap.size w w' := by
  have HV := hide hv
  have HX := hide hx
  have p2 := pw_le3 v hv.2
  have hcx : ∀ w', Below (w.heap.size + 1) (w.alloc (.cells #[.int .i64 x] 3)) w' → w'.cell? ⟨w.heap.size, 0, none⟩ = some (.int .i64 x) := fun w' h => (h.cell (p := ⟨w.heap.size, 0, none⟩) (by simp)).trans (by simp [go_sem])
  have HC := hide hcx
  clear hcx hv hx
  go_enter Try.func54, Try.ntmps54
  go_wp2_with fail
  have hB2 := bel2 w (.cells #[.int .i64 x] 3) (.cells #[.bool false, .bool false, .bool false, .bool false, .bool false, .bool false, .bool false, .bool false] 61)
  have hB1 : Below (w.heap.size + 1) (w.alloc (.cells #[.int .i64 x] 3)) ((w.alloc (.cells #[.int .i64 x] 3)).alloc (.cells #[.bool false, .bool false, .bool false, .bool false, .bool false, .bool false, .bool false, .bool false] 61)) := by have h := bel1 (w.alloc (.cells #[.int .i64 x] 3)) (.cells #[.bool false, .bool false, .bool false, .bool false, .bool false, .bool false, .bool false, .bool false] 61); rwa [World.size_alloc] at h
  have hs := new_blk (w.alloc (.cells #[.int .i64 x] 3)) #[.bool false, .bool false, .bool false, .bool false, .bool false, .bool false, .bool false, .bool false] 61
  rw [World.size_alloc] at hs
  have HB2 := hide hB2
  have HB1 := hide hB1
  have HS := hide hs
  clear hB2 hB1 hs
  refine (tableOfW_any (winF x) v w.heap.size _ HV.out (fun k w' hk hb' => winnersOf1_any x k _ _ HX.out (by omega) (HC.out _ (HB1.out.trans (hb'.mono (by simp)))))).mono ?_
  rintro e w1 ⟨rfl, hb⟩
  have hr := blk_below HS.out hb
  have r0 := cell_of_block hr 0
  have r1 := cell_of_block hr 1
  have r2 := cell_of_block hr 2
  have r3 := cell_of_block hr 3
  have r4 := cell_of_block hr 4
  have r5 := cell_of_block hr 5
  have r6 := cell_of_block hr 6
  have r7 := cell_of_block hr 7
  have fz := free_blk hr
  have HR := hide hr
  clear hr
  simp at r0 r1 r2 r3 r4 r5 r6 r7
  go_wp2
  exact bodyPost_ret (v := .agg #[Value.bool (upT v (winF x) 0), Value.bool (upT v (winF x) 1), Value.bool (upT v (winF x) 2), Value.bool (upT v (winF x) 3), Value.bool (upT v (winF x) 4), Value.bool (upT v (winF x) 5), Value.bool (upT v (winF x) 6), Value.bool (upT v (winF x) 7)]) (ret_set (p := 4) rfl _ _ (w.heap.size + 1) _ _ _ _ _ _ _ _ _ rfl (set8_blk HR.out _ _ _ _ _ _ _ _)) rfl ⟨rfl, set8_below (bnext HB2.out hb) (by omega) _ _ _ _ _ _ _ _⟩
theorem groupsWith1_any (i : Int) (k g : Nat) (w : World) (hx : 0 ≤ i ∧ i ≤ 3) (hk : k < 8) (c0 : w.cell? ⟨g, 0, none⟩ = some (.int .i64 i)) :
    Calls Try.prog 70 #[.int .i64 k, .pointer (some ⟨g, 0, none⟩)] w fun e w' => e = .returned (.bool (memF i k)) ∧ Below w.heap.size w w' := by
  obtain ⟨m, rfl⟩ := Int.eq_ofNat_of_zero_le hx.1
  have HX : Hid (0 ≤ (k : Int) ∧ (k : Int) ≤ 65535) := ⟨by omega, by omega⟩
  go_enter Try.func70, Try.ntmps70
  go_wp2
  go_ret
  exact ⟨ret_bool (by rw [shr_bit (k : Int) m HX.out]; rfl), Below.refl _ _⟩
set_option maxHeartbeats 1000000 in
theorem groupsWith_any (v i : Int) (w : World) (hv : 1 ≤ v ∧ v ≤ 3) (hx : 0 ≤ i ∧ i ≤ 3) :
    Calls Try.prog 40 #[.int .i64 v, .int .i64 i] w fun e w' => e = .returned (.agg #[Value.bool (upT v (memF i) 0), Value.bool (upT v (memF i) 1), Value.bool (upT v (memF i) 2), Value.bool (upT v (memF i) 3), Value.bool (upT v (memF i) 4), Value.bool (upT v (memF i) 5), Value.bool (upT v (memF i) 6), Value.bool (upT v (memF i) 7)]) ∧ Below w.heap.size w w' := by
  have HV := hide hv
  have HX := hide hx
  have p2 := pw_le3 v hv.2
  have hcx : ∀ w', Below (w.heap.size + 1) (w.alloc (.cells #[.int .i64 i] 3)) w' → w'.cell? ⟨w.heap.size, 0, none⟩ = some (.int .i64 i) := fun w' h => (h.cell (p := ⟨w.heap.size, 0, none⟩) (by simp)).trans (by simp [go_sem])
  have HC := hide hcx
  clear hcx hv hx
  go_enter Try.func40, Try.ntmps40
  go_wp2_with fail
  have hB2 := bel2 w (.cells #[.int .i64 i] 3) (.cells #[.bool false, .bool false, .bool false, .bool false, .bool false, .bool false, .bool false, .bool false] 61)
  have hB1 : Below (w.heap.size + 1) (w.alloc (.cells #[.int .i64 i] 3)) ((w.alloc (.cells #[.int .i64 i] 3)).alloc (.cells #[.bool false, .bool false, .bool false, .bool false, .bool false, .bool false, .bool false, .bool false] 61)) := by have h := bel1 (w.alloc (.cells #[.int .i64 i] 3)) (.cells #[.bool false, .bool false, .bool false, .bool false, .bool false, .bool false, .bool false, .bool false] 61); rwa [World.size_alloc] at h
  have hs := new_blk (w.alloc (.cells #[.int .i64 i] 3)) #[.bool false, .bool false, .bool false, .bool false, .bool false, .bool false, .bool false, .bool false] 61
  rw [World.size_alloc] at hs
  have HB2 := hide hB2
  have HB1 := hide hB1
  have HS := hide hs
  clear hB2 hB1 hs
  refine (tableOfM_any (memF i) v w.heap.size _ HV.out (fun k w' hk hb' => groupsWith1_any i k _ _ HX.out (by omega) (HC.out _ (HB1.out.trans (hb'.mono (by simp)))))).mono ?_
  rintro e w1 ⟨rfl, hb⟩
  have hr := blk_below HS.out hb
  have r0 := cell_of_block hr 0
  have r1 := cell_of_block hr 1
  have r2 := cell_of_block hr 2
  have r3 := cell_of_block hr 3
  have r4 := cell_of_block hr 4
  have r5 := cell_of_block hr 5
  have r6 := cell_of_block hr 6
  have r7 := cell_of_block hr 7
  have fz := free_blk hr
  have HR := hide hr
  clear hr
  simp at r0 r1 r2 r3 r4 r5 r6 r7
  go_wp2
  exact bodyPost_ret (v := .agg #[Value.bool (upT v (memF i) 0), Value.bool (upT v (memF i) 1), Value.bool (upT v (memF i) 2), Value.bool (upT v (memF i) 3), Value.bool (upT v (memF i) 4), Value.bool (upT v (memF i) 5), Value.bool (upT v (memF i) 6), Value.bool (upT v (memF i) 7)]) (ret_set (p := 4) rfl _ _ (w.heap.size + 1) _ _ _ _ _ _ _ _ _ rfl (set8_blk HR.out _ _ _ _ _ _ _ _)) rfl ⟨rfl, set8_below (bnext HB2.out hb) (by omega) _ _ _ _ _ _ _ _⟩
/-- the first of the set that the group has all of is not among the first l -/
def grownK (f : Nat → Bool) (k l : Nat) : Prop := ∀ j, j < l → (f j && (j &&& k == j)) = false
theorem grownF_true {f : Nat → Bool} {k l : Nat} (hl : l < 8) (h1 : f l = true) (h2 : (l &&& k == l) = true) : grownF f k = true := by
  unfold grownF
  rw [List.any_eq_true]
  exact ⟨l, List.mem_range.2 hl, by rw [h1, h2]; rfl⟩
theorem grownF_false {f : Nat → Bool} {k : Nat} (h : grownK f k 8) : grownF f k = false := by
  unfold grownF
  rw [List.any_eq_false]
  intro j hj
  rw [h j (List.mem_range.1 hj)]
  simp
theorem andNot_bit (l k : Nat) (hl : l < 8) (hk : k < 8) : (bits .andNot .i64 (l : Int) (k : Int) == 0) = (l &&& k == l) := by
  rw [Bool.eq_iff_iff, beq_iff_eq, beq_iff_eq, andNot_zero _ _ (wf_lt8 l hl) (by omega)]
  simp
set_option maxHeartbeats 1000000 in
theorem grown1_any (f : Nat → Bool) (k g : Nat) (w : World) (hk : k < 8) (ht : Tab w g f) :
    Calls Try.prog 84 #[.int .i64 k, .pointer (some ⟨g, 0, none⟩)] w fun e w' => e = .returned (.bool (grownF f k)) ∧ Below w.heap.size w w' := by
  have ⟨_, c0, c1, c2, c3, c4, c5, c6, c7⟩ := ht
  go_enter Try.func84, Try.ntmps84
  go_wp2
  clear c0 c1 c2 c3 c4 c5 c6 c7 ht
  go_loop [7] (fun i => ∃ l : Nat, l ≤ 8 ∧ i = .int .i64 l ∧ grownK f k l) (fun i => 8 - (intOf i).toNat)
  case atStart => exact ⟨0, by omega, rfl, fun j hj => by omega⟩
  case round =>
    obtain ⟨l, hl, rfl, hall⟩ := hrel
    have HA := hide hall
    clear hall
    by_cases hlt : l < 8
    · have hi := idx_at f l hlt
      have ha := andNot_bit l k hlt hk
      cases hf : f l
      · have HN : Hid (grownK f k (l + 1)) := fun j hj => by
          rcases Nat.lt_or_ge j l with h | h
          · exact HA.out j h
          · obtain rfl : j = l := by omega
            rw [hf]; rfl
        rw [hf] at hi
        clear ha
        go_wp2
        go_round
        case rel => exact ⟨l + 1, by omega, by go_num, HN.out⟩
        case measure => simp only [intOf]; omega
      · cases hb : (l &&& k == l)
        · have HN : Hid (grownK f k (l + 1)) := fun j hj => by
            rcases Nat.lt_or_ge j l with h | h
            · exact HA.out j h
            · obtain rfl : j = l := by omega
              rw [hb]; simp
          rw [hf] at hi
          rw [hb] at ha
          clear hb hf
          go_wp2
          go_round
          case rel => exact ⟨l + 1, by omega, by go_num, HN.out⟩
          case measure => simp only [intOf]; omega
        · have HN := hide (grownF_true hlt hf hb)
          rw [hf] at hi
          rw [hb] at ha
          clear hb hf
          go_wp2
          go_ret
          exact ⟨ret_bool HN.out.symm, Below.refl _ _⟩
    · obtain rfl : l = 8 := by omega
      go_wp2
      go_ret
      exact ⟨ret_bool (grownF_false HA.out).symm, Below.refl _ _⟩
set_option maxHeartbeats 1000000 in
theorem grown_any (v : Int) (f : Nat → Bool) (w : World) (hv : 1 ≤ v ∧ v ≤ 3) :
    Calls Try.prog 67 #[.int .i64 v, .agg #[Value.bool (f 0), Value.bool (f 1), Value.bool (f 2), Value.bool (f 3), Value.bool (f 4), Value.bool (f 5), Value.bool (f 6), Value.bool (f 7)]] w fun e w' => e = .returned (.agg #[Value.bool (upT v (grownF f) 0), Value.bool (upT v (grownF f) 1), Value.bool (upT v (grownF f) 2), Value.bool (upT v (grownF f) 3), Value.bool (upT v (grownF f) 4), Value.bool (upT v (grownF f) 5), Value.bool (upT v (grownF f) 6), Value.bool (upT v (grownF f) 7)]) ∧ Below w.heap.size w w' := by
  have HV := hide hv
  have p2 := pw_le3 v hv.2
  have T0 := Tab.new w f 61
  have HT := hide T0
  clear hv T0
  go_enter Try.func67, Try.ntmps67
  go_wp2_with fail
  have hB2 := bel2 w (.cells #[Value.bool (f 0), Value.bool (f 1), Value.bool (f 2), Value.bool (f 3), Value.bool (f 4), Value.bool (f 5), Value.bool (f 6), Value.bool (f 7)] 61) (.cells #[.bool false, .bool false, .bool false, .bool false, .bool false, .bool false, .bool false, .bool false] 61)
  have hT2 := HT.out.below (bel1 _ (.cells #[.bool false, .bool false, .bool false, .bool false, .bool false, .bool false, .bool false, .bool false] 61))
  have hs := new_blk (w.alloc (.cells #[Value.bool (f 0), Value.bool (f 1), Value.bool (f 2), Value.bool (f 3), Value.bool (f 4), Value.bool (f 5), Value.bool (f 6), Value.bool (f 7)] 61)) #[.bool false, .bool false, .bool false, .bool false, .bool false, .bool false, .bool false, .bool false] 61
  rw [World.size_alloc] at hs
  have HB2 := hide hB2
  have HT2 := hide hT2
  have HS := hide hs
  clear hB2 hT2 hs HT
  refine (tableOfG_any (grownF f) v w.heap.size _ HV.out (fun k w' hk hb' => grown1_any f k _ _ (by omega) (HT2.out.below hb'))).mono ?_
  rintro e w1 ⟨rfl, hb⟩
  have hr := blk_below HS.out hb
  have r0 := cell_of_block hr 0
  have r1 := cell_of_block hr 1
  have r2 := cell_of_block hr 2
  have r3 := cell_of_block hr 3
  have r4 := cell_of_block hr 4
  have r5 := cell_of_block hr 5
  have r6 := cell_of_block hr 6
  have r7 := cell_of_block hr 7
  have fz := free_blk hr
  have HR := hide hr
  clear hr
  simp at r0 r1 r2 r3 r4 r5 r6 r7
  go_wp2
  exact bodyPost_ret (v := .agg #[Value.bool (upT v (grownF f) 0), Value.bool (upT v (grownF f) 1), Value.bool (upT v (grownF f) 2), Value.bool (upT v (grownF f) 3), Value.bool (upT v (grownF f) 4), Value.bool (upT v (grownF f) 5), Value.bool (upT v (grownF f) 6), Value.bool (upT v (grownF f) 7)]) (ret_set (p := 4) rfl _ _ (w.heap.size + 1) _ _ _ _ _ _ _ _ _ rfl (set8_blk HR.out _ _ _ _ _ _ _ _)) rfl ⟨rfl, set8_below (bnext HB2.out hb) (by omega) _ _ _ _ _ _ _ _⟩
set_option maxHeartbeats 1000000 in
theorem isGrown_any (v : Int) (f : Nat → Bool) (w : World) (hv : 1 ≤ v ∧ v ≤ 3) :
    Calls Try.prog 38 #[.int .i64 v, .agg #[Value.bool (f 0), Value.bool (f 1), Value.bool (f 2), Value.bool (f 3), Value.bool (f 4), Value.bool (f 5), Value.bool (f 6), Value.bool (f 7)]] w fun e w' => e = .returned (.bool (eqT f (upT v (grownF f)))) ∧ Below w.heap.size w w' := by
  have T0 := Tab.new w f 61
  have HT := hide T0
  have hg := guardTab
  have he := eqlTab
  have HV := hide hv
  have ⟨_, c0, c1, c2, c3, c4, c5, c6, c7⟩ := T0
  clear hv T0
  go_enter Try.func38, Try.ntmps38
  go_wp2_with fail
  go_region_held3 (fun w' => w'.cell? ⟨w.heap.size, 0, none⟩ = some (.bool (f 0)) ∧ w'.cell? ⟨w.heap.size, 1, none⟩ = some (.bool (f 1)) ∧ w'.cell? ⟨w.heap.size, 2, none⟩ = some (.bool (f 2)) ∧ w'.cell? ⟨w.heap.size, 3, none⟩ = some (.bool (f 3)) ∧ w'.cell? ⟨w.heap.size, 4, none⟩ = some (.bool (f 4)) ∧ w'.cell? ⟨w.heap.size, 5, none⟩ = some (.bool (f 5)) ∧ w'.cell? ⟨w.heap.size, 6, none⟩ = some (.bool (f 6)) ∧ w'.cell? ⟨w.heap.size, 7, none⟩ = some (.bool (f 7)))
    (first
      | exact ⟨c0, c1, c2, c3, c4, c5, c6, c7⟩
      | exact ((HT.out.below (bdrew hb3))).2
      | go_keep)
    (first
      | (go_at_call 67; refine (grown_any v f _ HV.out).mono ?_; rintro e w3 ⟨rfl, hb3⟩)
      | fail)
  go_wp2
  go_ret
  exact ⟨rfl, bnext (bel1 w _) (bdrew hb3)⟩
end Go.Proofs.Ytbmodiobgkmngaa
