/- The judgments of a poll: what the iterator hands over. -/
import Derived.Test.YtcophcjkhdipbaaRng
import Derived.Test.YtcophcjkhdipbaaSV
import Derived.RangeFuncCalls
import Derived.Shelf.Abstract
import Derived.Shelf.RegionOpen
import Derived.WalkKit
import Derived.OwnWalkIn
import Derived.TacticsInMore
import Derived.LoopNIn
import Derived.LoopIn
namespace Go.Proofs.Ytcophcjkhdipbaa
open Go.RowKit

attribute [local go_sem] Oper.semAt_some

theorem take_step {zs : List Int} {k : Nat} (h : k < zs.length) : zs.take k ++ [zs[k]] = zs.take (k + 1) := by
  rw [List.take_add_one, List.getElem?_eq_getElem h]; rfl

set_option maxRecDepth 100000 in
set_option maxHeartbeats 2000000 in
theorem judgments_iter (N : Nat) (n : Int) (a l : Option Addr) (cap capl m : Nat) (zs : List Int) (C B : Int) (w0 : World) (hi : Ints w0 a zs) (hn : zs.length ≤ 1048576) :
    Iter Fence.wide N Try.prog 85 #[.agg #[.int .i64 n, .slice a zs.length cap, .slice l m capl, .int .i64 C, .int .i64 B]] zs w0 := by
  intro q J Jx W hJb hJa hY h0
  have h1 := hJa [] W (.cells #[.int .i64 n, .slice a zs.length cap, .slice l m capl, .int .i64 C, .int .i64 B] 61) h0
  refine callsIn_of_wp Try.func85 rfl trivial ?_ rfl
  simp only [Try.ntmps85, List.size_toArray, List.length_cons, List.length_nil, Nat.reduceAdd, Nat.reduceSub, Array.replicate_succ, Array.replicate_zero, List.push_toArray, List.append_toArray, List.nil_append, List.cons_append]
  gi_wp2
  gi_loopw [10] (fun i wr => ∃ k : Nat, k ≤ zs.length ∧ i = .int .i64 k ∧ J (zs.take k) wr) (fun i _ => zs.length - (intOf i).toNat)
  case atStart => exact ⟨0, Nat.zero_le _, rfl, h1⟩
  case round =>
    obtain ⟨k, hk, rfl, hj⟩ := hrel
    by_cases hlt : k < zs.length
    · obtain ⟨b, off, rfl, hbl, hc⟩ := (hi.below (hJb _ _ hj)) (by omega)
      have hck := hc k hlt
      rw [getD_lt hlt] at hck
      obtain ⟨fn, tmps, assign, body, hy, hR⟩ := hY (zs.take k) zs[k] wr (by rw [take_step hlt]; exact List.take_prefix _ _) hj
      have HT := take_step hlt
      clear hc hi hY hJb hJa
      gi_wp2
      refine ⟨fun h => (by cases h), hR.mono ?_⟩
      rintro e W3 (⟨rfl, hj3⟩ | ⟨rfl, hx3⟩)
      · gi_wp2
        go_roundw
        case rel => exact ⟨k + 1, by omega, by go_num, by rw [← HT]; exact hj3⟩
        case measure => simp [intOf]; omega
      · gi_wp2
        refine bodyPost_ret (results_none rfl _ _ _) rfl ?_
        exact ⟨⟨_, rfl⟩, .inr hx3⟩
    · obtain rfl : k = zs.length := by omega
      rw [List.take_length] at hj
      gi_wp2
      go_end0
      exact ⟨⟨_, rfl⟩, .inl hj⟩
end Go.Proofs.Ytcophcjkhdipbaa
