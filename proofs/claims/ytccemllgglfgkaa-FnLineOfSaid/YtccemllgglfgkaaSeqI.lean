/- slices.Values and slices.Collect at numbers, at the program. -/
import Derived.Test.YtccemllgglfgkaaRngC
import Derived.Test.YtccemllgglfgkaaSV
import Derived.RangeFuncCalls
import Derived.Shelf.Abstract
import Derived.Shelf.RegionOpen
import Derived.WalkKit
import Derived.OwnWalkIn
import Derived.TacticsInMore
import Derived.LoopNIn
import Derived.LoopIn
import Derived.Maps.AppendAt
namespace Go.Proofs.Ytccemllgglfgkaa
open Go.RowKit Go.Joins

attribute [local go_sem] Oper.semAt_some

theorem values_any (a : Option Addr) (len cap : Nat) (w : World) : Calls Try.prog 118 #[.slice a len cap] w fun e w' =>
    e = .returned (.func (.func 143) #[] #[.pointer (some ⟨w.heap.size, 0, none⟩)]) ∧ w' = w.alloc (.cells #[.slice a len cap] 22) := by
  go_enter Try.func118, Try.ntmps118
  go_wp2
  go_ret
  exact ⟨rfl, rfl⟩

theorem take_next {zs : List Int} {k : Nat} (h : k < zs.length) : zs.take k ++ [zs[k]] = zs.take (k + 1) := by
  rw [List.take_add_one, List.getElem?_eq_getElem h]; rfl

set_option maxRecDepth 100000 in
set_option maxHeartbeats 2000000 in
theorem values_iter (N B : Nat) (a : Option Addr) (cap : Nat) (zs : List Int) (w0 : World) (hB : B < w0.heap.size) (hc : w0.cell? ⟨B, 0, none⟩ = some (.slice a zs.length cap)) (hi : Ints w0 a zs) (hn : zs.length ≤ 1048576) :
    IterC Fence.wide N Try.prog 143 #[] #[.pointer (some ⟨B, 0, none⟩)] zs w0 := by
  intro q J Jx W hJb _ hY h0
  show CallsIn Fence.wide N Try.prog 143 #[.func (.yield q) #[] #[], .pointer (some ⟨B, 0, none⟩)] W _
  have hcW := ((hJb _ _ h0).cell (p := ⟨B, 0, none⟩) hB).trans hc
  refine callsIn_of_wp Try.func143 rfl trivial ?_ rfl
  simp only [Try.ntmps143, List.size_toArray, List.length_cons, List.length_nil, Nat.reduceAdd, Nat.reduceSub, Array.replicate_succ, Array.replicate_zero, List.push_toArray, List.append_toArray, List.nil_append, List.cons_append]
  gi_wp2
  gi_loopw [7] (fun i wr => ∃ k : Nat, k ≤ zs.length ∧ i = .int .i64 k ∧ J (zs.take k) wr) (fun i _ => zs.length - (intOf i).toNat)
  case atStart => exact ⟨0, Nat.zero_le _, rfl, h0⟩
  case round =>
    obtain ⟨k, hk, rfl, hj⟩ := hrel
    by_cases hlt : k < zs.length
    · obtain ⟨b, off, rfl, hbl, hcc⟩ := (hi.below (hJb _ _ hj)) (by omega)
      have hck := hcc k hlt
      rw [getD_lt hlt] at hck
      obtain ⟨fn, tmps, assign, body, hy, hR⟩ := hY (zs.take k) zs[k] wr (by rw [take_next hlt]; exact List.take_prefix _ _) hj
      have HT := take_next hlt
      clear hcc hi hY hJb hcW hc
      gi_wp2
      refine ⟨fun h => (by cases h), hR.mono ?_⟩
      rintro e W3 (⟨rfl, hj3⟩ | ⟨rfl, hx3⟩)
      · gi_wp2
        go_roundw
        case rel => exact ⟨k + 1, by omega, by go_num, by rw [← HT]; exact hj3⟩
        case measure => simp [intOf]; omega
      · gi_wp2
        refine bodyPost_ret (results_none rfl _ _ _) rfl ?_
        exact ⟨⟨_, rfl⟩, .inr hx3⟩
    · obtain rfl : k = zs.length := by omega
      rw [List.take_length] at hj
      gi_wp2
      go_end0
      exact ⟨⟨_, rfl⟩, .inl hj⟩

set_option maxRecDepth 100000 in
set_option maxHeartbeats 4000000 in
theorem appendSeq_any (B : Nat) (a : Option Addr) (cap : Nat) (zs : List Int) (w : World) (hB : B < w.heap.size) (hc : w.cell? ⟨B, 0, none⟩ = some (.slice a zs.length cap)) (hi : Ints w a zs) (hn : zs.length ≤ 1048576) :
    Calls Try.prog 156 #[.slice none 0 0, .func (.func 143) #[] #[.pointer (some ⟨B, 0, none⟩)]] w (Gives zs w) := by
  obtain ⟨i0, hi0, hz0, hz1, hz2⟩ := info_parts info_int
  have hIt := hide (values_iter 5 B a cap zs w hB hc hi hn)
  have l0 := Boxed.new w 22 (.slice none 0 0)
  have hB0 := bel1 w (.cells #[.slice none 0 0] 22)
  have hsz : (w.alloc (.cells #[.slice none 0 0] 22)).heap.size = w.heap.size + 1 := by simp
  obtain ⟨W0, hW0⟩ : ∃ W0 : World, w.alloc (.cells #[.slice none 0 0] 22) = W0 := ⟨_, rfl⟩
  rw [hW0] at l0 hB0 hsz
  have hI : OwnFrom W0.heap.size (fun (s : List Int) W => (∃ v, Boxed W w.heap.size 22 v ∧ W.ownsRow w.heap.size 3 1 v s.length (s.map (Value.int .i64)) ∧ True) ∧ Below w.heap.size w W) :=
    OwnFrom.and (Own.from (holdsRow_own _ _ _ _ _ _ _ (fun _ _ => True)) _) (ownFrom_below (Nat.le_refl _) (by omega))
  have HI := hide hI
  clear hI hi hc
  refine (callsIn_wide (n := 6)).1 ?_
  refine callsIn_of_wp_marks Try.func156 rfl trivial ?_ rfl
  simp only [Try.ntmps156, List.size_toArray, List.length_cons, List.length_nil, Nat.reduceAdd, Nat.reduceSub, Array.replicate_succ, Array.replicate_zero, List.push_toArray, List.append_toArray, List.nil_append, List.cons_append]
  gi_wp2
  clear hW0
  refine rangeC_outer (F := Fence.wide) rfl (by omega) (gf := 143) (fb := #[]) (lb := #[.pointer (some ⟨B, 0, none⟩)]) rfl trivial (enters_of Try.func143 (by kernel_rfl) rfl) rfl hIt.out
    (fun (s : List Int) W => (∃ v, Boxed W w.heap.size 22 v ∧ W.ownsRow w.heap.size 3 1 v s.length (s.map (Value.int .i64)) ∧ True) ∧ Below w.heap.size w W) (fun _ _ => False) HI.out (fun _ _ _ _ h _ _ => h) (fun s V h => h.2) ⟨⟨_, l0, World.ownsRow_nil _ _ _ _, trivial⟩, hB0⟩ ?round ?done ?stop
  case stop => exact fun c V h => h.elim
  case done =>
    rintro V ⟨⟨v, bv, ov, _⟩, hB⟩ hD
    have hc := bv.cell
    clear hIt HI l0
    gi_wp2
    refine ⟨by simp, .inl ⟨_, _, rfl, run_takeDeferred hD, ?_⟩⟩
    exact ⟨_, results_tmp rfl _ _ _, v, rfl, ownsRow_putObj ov _ hD rfl, hB.trans (belowK_b (w := w) (Nat.le_refl _) V W0.heap.size _ _ (by omega) hD rfl rfl)⟩
  case round =>
    rintro s x W hp ⟨r, hr⟩ hi
    have hlen : s.length < zs.length := by have := hp.length_le; simp at this; omega
    clear hIt l0
    gi_wp2
    refine ⟨KeepsFrom.refl _ _, fun V hg ⟨r1, hr1⟩ _ => ?_⟩
    obtain ⟨⟨v, hv, hrow, _⟩, hB⟩ := HI.out s _ V _ hi hg (fun r e => by cases e; exact ⟨by omega, _, hr1, rfl⟩)
    have cv := hv.cell
    have hUs := hB.size
    have HB := hide hB
    clear hi hg hr1 hr hB hp HI
    gi_wp2_with ((gi_at_builtin; refine wpListIn_append_own _ rfl _ _ 22 rfl w.heap.size 3 i0 (.int .i64 0) 1 8 Try.underlying22 hi0 hz0 hz1 hz2 rfl (by decide) _ _ _ rfl (hrow.alloc _) ⟨V.heap.size, 0, none⟩ 1 1 [.int .i64 x] rfl rfl (cell_one_new _ _ _) (by simp [Value.oneCell']) (by unfold maxLen; omega) (by omega) (by simp; omega) ?_; intro v' w1 hown' hgrow _; obtain ⟨g', cap', rfl⟩ := ownsRow_succ hown'; obtain ⟨hv1, hv2, hr2, hk2, hb2⟩ := hv.appended (by decide) hrow hUs (Nat.le_refl _) hown' hgrow; have hc1 := hv1.cell; have hf1 := hv1.frozen))
    refine ⟨hk2.from _, ⟨_, hv2, ?_, trivial⟩, HB.out.trans hb2⟩
    rw [List.length_append, List.map_append]
    exact hr2

theorem collect_any (B : Nat) (a : Option Addr) (cap : Nat) (zs : List Int) (w : World) (hB : B < w.heap.size) (hc : w.cell? ⟨B, 0, none⟩ = some (.slice a zs.length cap)) (hi : Ints w a zs) (hn : zs.length ≤ 1048576) :
    Calls Try.prog 142 #[.func (.func 143) #[] #[.pointer (some ⟨B, 0, none⟩)]] w (Gives zs w) := by
  have H := hide (appendSeq_any B a cap zs w hB hc hi hn)
  clear hB hc hi
  go_enter Try.func142, Try.ntmps142
  go_wp2_with fail
  refine H.out.mono ?_
  rintro e w1 ⟨v, rfl, ov, hb⟩
  go_wp2
  go_ret
  exact ⟨v, rfl, ov, hb⟩
end Go.Proofs.Ytccemllgglfgkaa
