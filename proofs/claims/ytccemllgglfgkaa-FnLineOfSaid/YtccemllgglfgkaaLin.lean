/- Votes that stand lined up: how often an answer changes along them; the model's test. -/
import Derived.Test.YtccemllgglfgkaaSup
import Derived.Test.YtccemllgglfgkaaVotesW
import Derived.Deep.QuietTactic
import Derived.BigQuiet
import Derived.Deep.RegionWith
namespace Go.Proofs.Ytccemllgglfgkaa
open Go.RowKit Go.Joins

/-- how often the answer of issue j changes within the first k steps -/
def chgK (xs : List Int) (j : Nat) : Nat → Nat
  | 0 => 0
  | k + 1 => chgK xs j k + if bitN (xs.getD k 0).toNat j = bitN (xs.getD (k + 1) 0).toNat j then 0 else 1
theorem chgK_le (xs : List Int) (j : Nat) : ∀ k, chgK xs j k ≤ k
  | 0 => Nat.le_refl _
  | k + 1 => by have := chgK_le xs j k; unfold chgK; split <;> omega
def chg (xs : List Int) (j : Nat) : Nat := chgK xs j (xs.length - 1)
def linB (m : Nat) (xs : List Int) : Bool := decide (∀ j, j < m → chg xs j ≤ 1)
theorem linB_true {m : Nat} {xs : List Int} (h : ∀ j, j < m → chg xs j ≤ 1) : linB m xs = true := decide_eq_true h
theorem linB_false {m : Nat} {xs : List Int} {j : Nat} (hj : j < m) (h : 1 < chg xs j) : linB m xs = false := decide_eq_false fun hh => by have := hh j hj; omega
theorem lin_of {m : Nat} {xs : List Int} (h : linB m xs = true) : ∀ j, j < m → chg xs j ≤ 1 := of_decide_eq_true h

set_option maxHeartbeats 4000000 in
set_option maxRecDepth 100000 in
theorem lined_any (m : Nat) (a q : Option Addr) (cap capq len : Nat) (xs : List Int) (w : World) (hq : Ints w q xs) (h4 : m ≤ 4) (hr : ∀ x ∈ xs, 0 ≤ x ∧ x ≤ 15) (ho : xs.length ≤ 1048576) :
    Calls Try.prog 92 #[.agg #[.int .i64 m, .slice a len cap], .slice q xs.length capq] w fun e w' => e = .returned (.bool (linB m xs)) ∧ Below w.heap.size w w' := by
  have bx0 := Box.new w m a len cap 28
  have B0 := bel1 w (.cells #[.int .i64 m, .slice a len cap] 28)
  have iq0 := hq.below B0
  have HR := hide hr
  obtain ⟨w1, hw1⟩ : ∃ w1, w.alloc (.cells #[.int .i64 m, .slice a len cap] 28) = w1 := ⟨_, rfl⟩
  rw [hw1] at bx0 B0 iq0
  clear hq hr
  go_enter Try.func92, Try.ntmps92
  go_wp2_with fail
  clear hw1
  go_loopw [5] (fun x wr => ∃ j : Nat, j ≤ m ∧ x = .int .i64 j ∧ (∀ t, t < j → chg xs t ≤ 1) ∧ Below w1.heap.size w1 wr) (fun x _ => m - (intOf x).toNat)
  case atStart => exact ⟨0, Nat.zero_le _, rfl, fun t ht => by omega, Below.refl _ _⟩
  case round =>
    obtain ⟨j, hj, rfl, hall, BR⟩ := hrel
    obtain ⟨wk, rfl⟩ : ∃ wk, wk = wr := ⟨_, rfl⟩
    have HA := hide hall
    clear hall
    obtain ⟨_, c0, c1⟩ := bx0.below BR
    by_cases hlt : j < m
    · go_wp2
      clear c0 c1
      go_loopw [6, 7] (fun y z wr => ∃ k : Nat, k ≤ xs.length - 1 ∧ y = .int .i64 (chgK xs j k : Nat) ∧ z = .int .i64 (k : Nat) ∧ Below w1.heap.size w1 wr) (fun _ z _ => xs.length - (intOf z).toNat)
      case atStart => exact ⟨0, Nat.zero_le _, rfl, rfl, BR⟩
      case round =>
        clear BR
        obtain ⟨k, hk, rfl, rfl, BR⟩ := hrel
        obtain ⟨wq, rfl⟩ : ∃ wq, wq = wr := ⟨_, rfl⟩
        have hck := chgK_le xs j k
        by_cases hkt : k + 1 < xs.length
        · obtain ⟨b, off, rfl, hb, hc⟩ := (iq0.below BR) (by omega)
          have hc0 := hc k (by omega)
          have hc1 := hc (k + 1) hkt
          have r0 := HR.out _ (mem_of_at (zs := xs) (k := k) (by omega))
          have r1 := HR.out _ (mem_of_at (zs := xs) (k := k + 1) hkt)
          have hst : chgK xs j (k + 1) = chgK xs j k + if bitN (xs.getD k 0).toNat j = bitN (xs.getD (k + 1) 0).toNat j then 0 else 1 := rfl
          rw [getD_lt (show k < xs.length by omega)] at hc0 hst
          rw [getD_lt hkt] at hc1 hst
          obtain ⟨x, hx⟩ : ∃ x, xs[k]'(by omega) = x := ⟨_, rfl⟩
          obtain ⟨y, hy⟩ : ∃ y, xs[k + 1] = y := ⟨_, rfl⟩
          rw [hx] at hc0 r0 hst
          rw [hy] at hc1 r1 hst
          have HX := hide (fun w' : World => bitI_any x j w' r0 (by omega))
          have HY := hide (fun w' : World => bitI_any y j w' r1 (by omega))
          obtain ⟨p, hp⟩ : ∃ p, bitN x.toNat j = p := ⟨_, rfl⟩
          obtain ⟨s, hs⟩ : ∃ s, bitN y.toNat j = s := ⟨_, rfl⟩
          rw [hp] at HX hst
          rw [hs] at HY hst
          have HBQ := hide BR
          have HST := hide hst
          clear hc hx hy hp hs hst BR r0 r1
          go_wp2
          go_quiet (first
            | (go_at_call_of 124 (Value.int .i64 y); exact quiet_left (HY.out _))
            | (go_at_call_of 124 (Value.int .i64 x); exact quiet_left (HX.out _)))
          by_cases hps : p = s
          · have hb2 : ((p : Int) != (s : Int)) = false := by rw [hps]; simp
            have HS2 := hide (HST.out.trans (by rw [if_pos hps]))
            clear hps
            go_wp2
            go_roundw
            case rel => exact ⟨k + 1, by omega, by rw [HS2.out]; rfl, by go_num, bnext HBQ.out (belN _ _)⟩
            case measure => simp only [intOf]; omega
          · have hb2 : ((p : Int) != (s : Int)) = true := by simp; omega
            have HS2 := hide (HST.out.trans (by rw [if_neg hps]))
            clear hps
            go_wp2
            go_roundw
            case rel => exact ⟨k + 1, by omega, by rw [HS2.out]; go_num, by go_num, bnext HBQ.out (belN _ _)⟩
            case measure => simp only [intOf]; omega
        · have hk1 : k = xs.length - 1 := by omega
          have hce : chgK xs j k = chg xs j := by rw [hk1]; rfl
          rw [hce] at hck ⊢
          by_cases hone : chg xs j ≤ 1
          · have HO := hide hone
            go_wp2
            go_roundw
            case rel => exact ⟨j + 1, by omega, by go_num, fun t ht => by
              rcases Nat.lt_or_ge t j with h | h
              · exact HA.out t h
              · obtain rfl : t = j := by omega
                exact HO.out, BR⟩
            case measure => simp only [intOf]; omega
          · have HF := hide (linB_false hlt (show 1 < chg xs j by omega))
            have HBR := hide (bnext B0 BR)
            go_wp2
            go_ret
            rw [HF.out]
            exact ⟨rfl, HBR.out⟩
    · obtain rfl : j = m := by omega
      have HF := hide (linB_true HA.out)
      have HBR := hide (bnext B0 BR)
      go_wp2
      go_ret
      rw [HF.out]
      exact ⟨rfl, HBR.out⟩
end Go.Proofs.Ytccemllgglfgkaa
