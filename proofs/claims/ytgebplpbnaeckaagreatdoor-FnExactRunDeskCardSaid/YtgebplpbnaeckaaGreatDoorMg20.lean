/- Texts of this seat one behind the other: SeqI, Srt, Ord, Turn. Conditions: none. -/
import Derived.Test.YtgebplpbnaeckaaGreatDoorMg19
import Derived.Test.YtgebplpbnaeckaaGreatDoorMg08
import Derived.Test.YtgebplpbnaeckaaGreatDoorShelf
import Derived.Test.YtgebplpbnaeckaaGreatDoorMg07
import Derived.Test.YtgebplpbnaeckaaGreatDoorMg01
import Derived.Test.YtgebplpbnaeckaaGreatDoorMg18
import Derived.Test.YtgebplpbnaeckaaGreatDoorMg10
import Derived.RangeFuncCalls
import Derived.Shelf.Abstract
import Derived.Shelf.RegionOpen
import Derived.WalkKit
import Derived.OwnWalkIn
import Derived.TacticsInMore
import Derived.LoopNIn
import Derived.LoopIn
import Derived.Maps.AppendAt
import Derived.Sort.OwnSortedInts
import Derived.Lib.SlicesCompact
import Derived.Deep.RegionWith
import Derived.Outline

/- SeqI: slices.Values and slices.Collect at numbers, at the program. -/
namespace Go.Proofs.YtgebplpbnaeckaaGreatDoor
open Go.RowKit Go.Joins

attribute [local go_sem] Oper.semAt_some

theorem values_any (a : Option Addr) (len cap : Nat) (w : World) : Calls Tryz.prog 166 #[.slice a len cap] w fun e w' =>
    e = .returned (.func (.func 180) #[] #[.pointer (some ⟨w.heap.size, 0, none⟩)]) ∧ w' = w.alloc (.cells #[.slice a len cap] 35) := by
  go_enter Tryz.func166, Tryz.ntmps166
  go_wp2
  go_ret
  exact ⟨rfl, rfl⟩

theorem take_next {zs : List Int} {k : Nat} (h : k < zs.length) : zs.take k ++ [zs[k]] = zs.take (k + 1) := by
  rw [List.take_add_one, List.getElem?_eq_getElem h]; rfl

set_option maxRecDepth 100000 in
set_option maxHeartbeats 2000000 in
theorem values_iter (N B : Nat) (a : Option Addr) (cap : Nat) (zs : List Int) (w0 : World) (hB : B < w0.heap.size) (hc : w0.cell? ⟨B, 0, none⟩ = some (.slice a zs.length cap)) (hi : Ints w0 a zs) (hn : zs.length ≤ 1048576) :
    IterC Fence.wide N Tryz.prog 180 #[] #[.pointer (some ⟨B, 0, none⟩)] zs w0 := by
  intro q J Jx W hJb _ hY h0
  show CallsIn Fence.wide N Tryz.prog 180 #[.func (.yield q) #[] #[], .pointer (some ⟨B, 0, none⟩)] W _
  have hcW := ((hJb _ _ h0).cell (p := ⟨B, 0, none⟩) hB).trans hc
  refine callsIn_of_wp Tryz.func180 rfl trivial ?_ rfl
  simp only [Tryz.ntmps180, List.size_toArray, List.length_cons, List.length_nil, Nat.reduceAdd, Nat.reduceSub, Array.replicate_succ, Array.replicate_zero, List.push_toArray, List.append_toArray, List.nil_append, List.cons_append]
  gi_wp2
  gi_loopw [7] (fun i wr => ∃ k : Nat, k ≤ zs.length ∧ i = .int .i64 k ∧ J (zs.take k) wr) (fun i _ => zs.length - (intOf i).toNat)
  case atStart => exact ⟨0, Nat.zero_le _, rfl, h0⟩
  case round =>
    obtain ⟨k, hk, rfl, hj⟩ := hrel
    by_cases hlt : k < zs.length
    · obtain ⟨b, off, rfl, hbl, hcc⟩ := (hi.below (hJb _ _ hj)) (by omega)
      have hck := hcc k hlt
      rw [getD_lt hlt] at hck
      obtain ⟨fn, tmps, assign, body, hy, hR⟩ := hY (zs.take k) zs[k] wr (by rw [take_next hlt]; exact List.take_prefix _ _) hj
      have HT := take_next hlt
      clear hcc hi hY hJb hcW hc
      gi_wp2
      refine ⟨fun h => (by cases h), hR.mono ?_⟩
      rintro e W3 (⟨rfl, hj3⟩ | ⟨rfl, hx3⟩)
      · gi_wp2
        go_roundw
        case rel => exact ⟨k + 1, by omega, by go_num, by rw [← HT]; exact hj3⟩
        case measure => simp [intOf]; omega
      · gi_wp2
        refine bodyPost_ret (results_none rfl _ _ _) rfl ?_
        exact ⟨⟨_, rfl⟩, .inr hx3⟩
    · obtain rfl : k = zs.length := by omega
      rw [List.take_length] at hj
      gi_wp2
      go_end0
      exact ⟨⟨_, rfl⟩, .inl hj⟩

set_option maxRecDepth 100000 in
set_option maxHeartbeats 4000000 in
theorem appendSeq_any (B : Nat) (a : Option Addr) (cap : Nat) (zs : List Int) (w : World) (hB : B < w.heap.size) (hc : w.cell? ⟨B, 0, none⟩ = some (.slice a zs.length cap)) (hi : Ints w a zs) (hn : zs.length ≤ 1048576) :
    Calls Tryz.prog 190 #[.slice none 0 0, .func (.func 180) #[] #[.pointer (some ⟨B, 0, none⟩)]] w (Gives zs w) := by
  obtain ⟨i0, hi0, hz0, hz1, hz2⟩ := info_parts info_int
  have hIt := hide (values_iter 5 B a cap zs w hB hc hi hn)
  have l0 := Boxed.new w 35 (.slice none 0 0)
  have hB0 := bel1 w (.cells #[.slice none 0 0] 35)
  have hsz : (w.alloc (.cells #[.slice none 0 0] 35)).heap.size = w.heap.size + 1 := by simp
  obtain ⟨W0, hW0⟩ : ∃ W0 : World, w.alloc (.cells #[.slice none 0 0] 35) = W0 := ⟨_, rfl⟩
  rw [hW0] at l0 hB0 hsz
  have hI : OwnFrom W0.heap.size (fun (s : List Int) W => (∃ v, Boxed W w.heap.size 35 v ∧ W.ownsRow w.heap.size 3 1 v s.length (s.map (Value.int .i64)) ∧ True) ∧ Below w.heap.size w W) :=
    OwnFrom.and (Own.from (holdsRow_own _ _ _ _ _ _ _ (fun _ _ => True)) _) (ownFrom_below (Nat.le_refl _) (by omega))
  have HI := hide hI
  clear hI hi hc
  refine (callsIn_wide (n := 6)).1 ?_
  refine callsIn_of_wp_marks Tryz.func190 rfl trivial ?_ rfl
  simp only [Tryz.ntmps190, List.size_toArray, List.length_cons, List.length_nil, Nat.reduceAdd, Nat.reduceSub, Array.replicate_succ, Array.replicate_zero, List.push_toArray, List.append_toArray, List.nil_append, List.cons_append]
  gi_wp2
  clear hW0
  refine rangeC_outer (F := Fence.wide) rfl (by omega) (gf := 180) (fb := #[]) (lb := #[.pointer (some ⟨B, 0, none⟩)]) rfl trivial (enters_of Tryz.func180 (by kernel_rfl) rfl) rfl hIt.out
    (fun (s : List Int) W => (∃ v, Boxed W w.heap.size 35 v ∧ W.ownsRow w.heap.size 3 1 v s.length (s.map (Value.int .i64)) ∧ True) ∧ Below w.heap.size w W) (fun _ _ => False) HI.out (fun _ _ _ _ h _ _ => h) (fun s V h => h.2) ⟨⟨_, l0, World.ownsRow_nil _ _ _ _, trivial⟩, hB0⟩ ?round ?done ?stop
  case stop => exact fun c V h => h.elim
  case done =>
    rintro V ⟨⟨v, bv, ov, _⟩, hB⟩ hD
    have hc := bv.cell
    clear hIt HI l0
    gi_wp2
    refine ⟨by simp, .inl ⟨_, _, rfl, run_takeDeferred hD, ?_⟩⟩
    exact ⟨_, results_tmp rfl _ _ _, v, rfl, ownsRow_putObj ov _ hD rfl, hB.trans (belowK_b (w := w) (Nat.le_refl _) V W0.heap.size _ _ (by omega) hD rfl rfl)⟩
  case round =>
    rintro s x W hp ⟨r, hr⟩ hi
    have hlen : s.length < zs.length := by have := hp.length_le; simp at this; omega
    clear hIt l0
    gi_wp2
    refine ⟨KeepsFrom.refl _ _, fun V hg ⟨r1, hr1⟩ _ => ?_⟩
    obtain ⟨⟨v, hv, hrow, _⟩, hB⟩ := HI.out s _ V _ hi hg (fun r e => by cases e; exact ⟨by omega, _, hr1, rfl⟩)
    have cv := hv.cell
    have hUs := hB.size
    have HB := hide hB
    clear hi hg hr1 hr hB hp HI
    gi_wp2_with ((gi_at_builtin; refine wpListIn_append_own _ rfl _ _ 35 rfl w.heap.size 3 i0 (.int .i64 0) 1 8 Tryz.underlying35 hi0 hz0 hz1 hz2 rfl (by decide) _ _ _ rfl (hrow.alloc _) ⟨V.heap.size, 0, none⟩ 1 1 [.int .i64 x] rfl rfl (cell_one_new _ _ _) (by simp [Value.oneCell']) (by unfold maxLen; omega) (by omega) (by simp; omega) ?_; intro v' w1 hown' hgrow _; obtain ⟨g', cap', rfl⟩ := ownsRow_succ hown'; obtain ⟨hv1, hv2, hr2, hk2, hb2⟩ := hv.appended (by decide) hrow hUs (Nat.le_refl _) hown' hgrow; have hc1 := hv1.cell; have hf1 := hv1.frozen))
    refine ⟨hk2.from _, ⟨_, hv2, ?_, trivial⟩, HB.out.trans hb2⟩
    rw [List.length_append, List.map_append]
    exact hr2

theorem collect_any (B : Nat) (a : Option Addr) (cap : Nat) (zs : List Int) (w : World) (hB : B < w.heap.size) (hc : w.cell? ⟨B, 0, none⟩ = some (.slice a zs.length cap)) (hi : Ints w a zs) (hn : zs.length ≤ 1048576) :
    Calls Tryz.prog 178 #[.func (.func 180) #[] #[.pointer (some ⟨B, 0, none⟩)]] w (Gives zs w) := by
  have H := hide (appendSeq_any B a cap zs w hB hc hi hn)
  clear hB hc hi
  go_enter Tryz.func178, Tryz.ntmps178
  go_wp2_with fail
  refine H.out.mono ?_
  rintro e w1 ⟨v, rfl, ov, hb⟩
  go_wp2
  go_ret
  exact ⟨v, rfl, ov, hb⟩
end Go.Proofs.YtgebplpbnaeckaaGreatDoor

/- Srt: What slices.Sort and slices.Compact make of numbers, and of the block that holds them. Nothing of the program. -/
namespace Go.Proofs.YtgebplpbnaeckaaGreatDoor
open Go.RowKit Go.Joins Go.Sort

theorem ascZ_ext : ∀ (l l' : List Int), l.Pairwise (· < ·) → l'.Pairwise (· < ·) → (∀ x, x ∈ l ↔ x ∈ l') → l = l'
  | [], [], _, _, _ => rfl
  | [], b :: l', _, _, h => by have := (h b).2 (by simp); cases this
  | a :: l, [], _, _, h => by have := (h a).1 (by simp); cases this
  | a :: l, b :: l', h1, h2, h => by
    have h1' := List.pairwise_cons.1 h1
    have h2' := List.pairwise_cons.1 h2
    have hab : a = b := by
      have ha : a ∈ b :: l' := (h a).1 (by simp)
      have hb : b ∈ a :: l := (h b).2 (by simp)
      rcases List.mem_cons.1 ha with e | ha
      · exact e
      · rcases List.mem_cons.1 hb with e | hb
        · exact e.symm
        · have := h2'.1 a ha
          have := h1'.1 b hb
          omega
    subst hab
    rw [ascZ_ext l l' h1'.2 h2'.2 (fun x => ?_)]
    constructor
    · intro hx
      have := h1'.1 x hx
      rcases List.mem_cons.1 ((h x).1 (List.mem_cons_of_mem _ hx)) with e | e
      · omega
      · exact e
    · intro hx
      have := h2'.1 x hx
      rcases List.mem_cons.1 ((h x).2 (List.mem_cons_of_mem _ hx)) with e | e
      · omega
      · exact e
theorem comp_facts {d : Array Int} (hs : ∀ i j, i ≤ j → j < d.size → d[i]! ≤ d[j]!) : ∀ m, m ≤ d.size → (Lib.compactUpTo d m).Pairwise (· < ·) ∧ ∀ x, x ∈ Lib.compactUpTo d m ↔ ∃ j, j < m ∧ d[j]! = x
  | 0, _ => ⟨by simp [Lib.compactUpTo], fun x => by simp [Lib.compactUpTo]⟩
  | m + 1, hm => by
    obtain ⟨h1, h2⟩ := comp_facts hs m (by omega)
    rw [Lib.compactUpTo_succ]
    by_cases hk : Lib.keeps d m = true
    · rw [if_pos hk]
      refine ⟨?_, fun x => ?_⟩
      · rw [List.pairwise_append]
        refine ⟨h1, List.pairwise_singleton _ _, fun a ha b hb => ?_⟩
        obtain ⟨j, hj, rfl⟩ := (h2 a).1 ha
        rw [List.mem_singleton] at hb
        subst hb
        have hne : d[m]! ≠ d[m - 1]! := by
          unfold Lib.keeps at hk
          rw [decide_eq_true_iff] at hk
          rcases hk with e | e
          · omega
          · exact e
        have a1 := hs j (m - 1) (by omega) (by omega)
        have a2 := hs (m - 1) m (by omega) (by omega)
        omega
      · rw [List.mem_append, h2, List.mem_singleton]
        constructor
        · rintro (⟨j, hj, e⟩ | e)
          · exact ⟨j, by omega, e⟩
          · exact ⟨m, by omega, e.symm⟩
        · rintro ⟨j, hj, e⟩
          by_cases e2 : j = m
          · subst e2
            exact .inr e.symm
          · exact .inl ⟨j, by omega, e⟩
    · rw [if_neg hk, List.append_nil]
      refine ⟨h1, fun x => ?_⟩
      rw [h2]
      have hm0 : m ≠ 0 ∧ d[m]! = d[m - 1]! := by
        unfold Lib.keeps at hk
        rw [decide_eq_true_iff] at hk
        exact ⟨fun e => hk (.inl e), Classical.byContradiction fun e => hk (.inr e)⟩
      constructor
      · rintro ⟨j, hj, e⟩
        exact ⟨j, by omega, e⟩
      · rintro ⟨j, hj, e⟩
        by_cases e2 : j = m
        · subst e2
          exact ⟨j - 1, by omega, by rw [← hm0.2]; exact e⟩
        · exact ⟨j, by omega, e⟩
/-- a list in order -/
def srt (l : List Int) : List Int := l.mergeSort fun x y => decide (x ≤ y)
theorem srt_perm (l : List Int) : (srt l).Perm l := List.mergeSort_perm _ _
theorem srt_len (l : List Int) : (srt l).length = l.length := (srt_perm l).length_eq
theorem srt_sorted (l : List Int) : (srt l).Pairwise (· ≤ ·) := by
  have h : (srt l).Pairwise (fun x y => decide (x ≤ y) = true) := by
    unfold srt
    exact List.pairwise_mergeSort (fun a b c h1 h2 => by simp at h1 h2 ⊢; omega) (fun a b => by simp; omega) l
  exact h.imp fun h => by simpa using h
/-- a list in order, each number once -/
def unq (l : List Int) : List Int := Lib.compact (srt l)
theorem srt_at (l : List Int) {i j : Nat} (hij : i ≤ j) (hj : j < (srt l).toArray.size) : (srt l).toArray[i]! ≤ (srt l).toArray[j]! := by
  have hj' : j < (srt l).length := by simpa using hj
  rw [getElem!_pos _ i (by simp; omega), getElem!_pos _ j hj]
  simp only [List.getElem_toArray]
  rcases Nat.eq_or_lt_of_le hij with e | e
  · subst e
    exact Int.le_refl _
  · exact List.pairwise_iff_getElem.1 (srt_sorted l) i j (by omega) hj' e
theorem unq_facts (l : List Int) : (unq l).Pairwise (· < ·) ∧ ∀ x, x ∈ unq l ↔ x ∈ l := by
  obtain ⟨h1, h2⟩ := comp_facts (d := (srt l).toArray) (fun i j h h' => srt_at l h h') (srt l).length (by simp)
  refine ⟨h1, fun x => ?_⟩
  rw [← (srt_perm l).mem_iff]
  refine (h2 x).trans ?_
  constructor
  · rintro ⟨j, hj, e⟩
    rw [getElem!_pos _ j (by simpa using hj)] at e
    rw [← e]
    simp
  · intro hx
    obtain ⟨j, hj, e⟩ := List.getElem_of_mem hx
    exact ⟨j, hj, by rw [getElem!_pos _ j (by simpa using hj)]; simpa using e⟩
theorem unq_len (l : List Int) : (unq l).length ≤ l.length := by
  have h : (unq l).length ≤ (srt l).length := by
    unfold unq Lib.compact Lib.compactUpTo
    rw [List.length_map]
    refine Nat.le_trans (List.length_filter_le _ _) ?_
    simp
  rw [srt_len] at h
  exact h
/-- what is ascending and has the same numbers is it -/
theorem unq_eq {l l' : List Int} (h : l'.Pairwise (· < ·)) (hm : ∀ x, x ∈ l' ↔ x ∈ l) : unq l = l' :=
  ascZ_ext _ _ (unq_facts l).1 h fun x => ((unq_facts l).2 x).trans (hm x).symm

/-! ### in memory -/
theorem put_cells (ts : List Int) (cur : Array Value) (h : cur.size = ts.length) : putCells (Value.int .i64) 0 ts.toArray cur = (ts.map (Value.int .i64)).toArray := by
  apply Array.ext_getElem?
  intro k
  by_cases hk : k < ts.length
  · simp [putCells, hk, show k < cur.size by omega]
  · simp [putCells, hk, show ¬ k < cur.size by omega]
theorem blk_sorted {w : World} {g n : Nat} {os : Array Obj} {xs ts : List Int} {e : TypeId} (hl : ts.length = xs.length) (hb : w.heap[g]? = some (.cells (xs.map (Value.int .i64)).toArray e (0, 0))) :
    (grow (putRow (Value.int .i64) (Go.Sort.ahead w n) g 0 ts.toArray) os).heap[g]? = some (.cells (ts.map (Value.int .i64)).toArray e (0, 0)) := by
  rw [heap_sortedI _ hb, put_cells]
  simp [hl]
theorem grow_nil (w : World) : grow w #[] = w := by simp [grow]
theorem blk_put {w : World} {g n : Nat} {xs ts : List Int} {e : TypeId} (hl : ts.length = xs.length) (hb : w.heap[g]? = some (.cells (xs.map (Value.int .i64)).toArray e (0, 0))) :
    (putRow (Value.int .i64) (Go.Sort.ahead w n) g 0 ts.toArray).heap[g]? = some (.cells (ts.map (Value.int .i64)).toArray e (0, 0)) := by
  have h := blk_sorted (n := n) (os := #[]) hl hb
  rwa [grow_nil] at h
theorem grown_put {w : World} {g n : Nat} (d : Array Int) : w.grownBy (putRow (Value.int .i64) (Go.Sort.ahead w n) g 0 d) (some g) := by
  have h := grownBy_sortedI (w := w) (g := g) (n := n) (os := #[]) d
  rwa [grow_nil] at h
theorem holds_blk {w : World} {g : Nat} {xs : List Int} {e : TypeId} (hb : w.heap[g]? = some (.cells (xs.map (Value.int .i64)).toArray e (0, 0))) : Holds (Value.int .i64) w g 0 xs.toArray :=
  holds_of_blockI hb (by simp; exact List.take_of_length_le (by simp))
theorem own_cut {w : World} {base g : Nat} {ys zz : List Int} (hb : w.heap[g]? = some (.cells ((ys ++ zz).map (Value.int .i64)).toArray 3 (0, 0))) (hbase : base ≤ g) (hm : (ys ++ zz).length ≤ maxLen) :
    Owns w base (.slice (some ⟨g, 0, none⟩) ys.length (ys ++ zz).length) ys := by
  refine ⟨by simp, .inr ⟨g, _, _, rfl, hbase, hb, by simp, hm, by simp, ?_⟩⟩
  simp
end Go.Proofs.YtgebplpbnaeckaaGreatDoor

/- Ord: slices.Sorted at numbers; whether numbers are all issues once, in the program and in the model. -/
namespace Go.Proofs.YtgebplpbnaeckaaGreatDoor
open Go.RowKit Go.Joins Go.Sort

theorem sorted_any (B : Nat) (a : Option Addr) (cap : Nat) (zs : List Int) (w : World) (hB : B < w.heap.size) (hc : w.cell? ⟨B, 0, none⟩ = some (.slice a zs.length cap)) (hi : Ints w a zs) (hn : zs.length ≤ 1048576) (hpos : 0 < zs.length) :
    Calls Tryz.prog 165 #[.func (.func 180) #[] #[.pointer (some ⟨B, 0, none⟩)]] w (Gives (srt zs) w) := by
  have H := hide (collect_any B a cap zs w hB hc hi hn)
  clear hB hc hi
  go_enter Tryz.func165, Tryz.ntmps165
  go_wp2_with fail
  refine H.out.mono ?_
  rintro e w1 ⟨v, rfl, ov, hb⟩
  have ov' : w1.ownsRow w.heap.size 3 1 v zs.length (zs.map (Value.int .i64)) := ov
  rcases ov'.2 with ⟨_, h0⟩ | ⟨g, cv, cur, rfl, hg, hblk, h1, h2, h3, h4⟩
  · omega
  have HH := hide (holds_of_blockI (ss := zs) hblk (by rw [Nat.mul_one] at h4; exact h4))
  have hlt := lt_of_block hblk
  have HL := hide hblk
  clear ov ov' hblk
  go_wp2_with fail
  refine (Tryz.slices_Sort_int g 0 cv zs w1 HH.out hlt (by omega)).mono ?_
  rintro e w2 ⟨rfl, n, os, hw2⟩
  have HO : Hid (w2.ownsRow w.heap.size 3 1 (.slice (some ⟨g, 0, none⟩) zs.length cv) zs.length ((srt zs).map (Value.int .i64))) := by
    rw [hw2]; exact ownsRow_sortedI (base := w.heap.size) (n := n) (os := os) (srt_len zs) hg HL.out h1 h2 h3
  have HG : Hid (w1.grownBy w2 (some g)) := by rw [hw2]; exact grownBy_sortedI _
  clear hw2
  go_wp2
  go_ret
  refine ⟨_, rfl, ?_, hb.grown HG.out hb.size (fun k hk => by cases hk; exact hg)⟩
  unfold Owns
  rw [srt_len]
  exact HO.out

/-- all issues once -/
def OrdOk (n : Int) (ls : List Int) : Prop := (ls.length : Int) = n ∧ (∀ i, i < ls.length → 0 ≤ ls.getD i 0 ∧ ls.getD i 0 ≤ n - 1) ∧ ∀ i, i < ls.length → ∀ k, k < i → ls.getD k 0 ≠ ls.getD i 0
instance (n : Int) (ls : List Int) : Decidable (OrdOk n ls) := by unfold OrdOk; infer_instance
def ordB (n : Int) (ls : List Int) : Bool := decide (OrdOk n ls)
theorem ordB_true {n : Int} {ls : List Int} (h : OrdOk n ls) : ordB n ls = true := decide_eq_true h
theorem ordB_false {n : Int} {ls : List Int} (h : ¬ OrdOk n ls) : ordB n ls = false := decide_eq_false h
theorem ord_of {n : Int} {ls : List Int} (h : ordB n ls = true) : OrdOk n ls := of_decide_eq_true h
/-- strictly ascending numbers from 0 to one less than their number -/
theorem asc_full {d : List Int} (hp : d.Pairwise (· < ·)) (h0 : ∀ x ∈ d, 0 ≤ x ∧ x ≤ (d.length : Int) - 1) : ∀ j, (h : j < d.length) → d[j] = (j : Int) := by
  have lo : ∀ j, (h : j < d.length) → (j : Int) ≤ d[j] := by
    intro j
    induction j with
    | zero => exact fun h => (h0 _ (List.getElem_mem h)).1
    | succ j ih =>
      intro h
      have h1 := ih (by omega)
      have h2 := (List.pairwise_iff_getElem.1 hp) j (j + 1) (by omega) h (by omega)
      omega
  have hi : ∀ t, t < d.length → ∀ (h : d.length - 1 - t < d.length), d[d.length - 1 - t] ≤ ((d.length - 1 - t : Nat) : Int) := by
    intro t
    induction t with
    | zero =>
      intro h1 h
      have := (h0 _ (List.getElem_mem h)).2
      omega
    | succ t ih =>
      intro h1 h
      have h2 := ih (by omega) (by omega)
      have h3 := (List.pairwise_iff_getElem.1 hp) (d.length - 1 - (t + 1)) (d.length - 1 - t) h (by omega) (by omega)
      omega
  intro j h
  have h1 := lo j h
  have h2 := hi (d.length - 1 - j) (by omega) (by omega)
  have e : d.length - 1 - (d.length - 1 - j) = j := by omega
  simp only [e] at h2
  omega
theorem ordd_nodup {ls : List Int} (h : ∀ i, i < ls.length → ∀ k, k < i → ls.getD k 0 ≠ ls.getD i 0) : ls.Nodup := by
  rw [List.nodup_iff_pairwise_ne, List.pairwise_iff_getElem]
  intro i j hi hj hij
  have := h j hj i hij
  rwa [getD_lt hi, getD_lt hj] at this
theorem ordd_sorted {n : Int} {ls : List Int} (hl : (ls.length : Int) = n) : OrdOk n ls ↔ ∀ j, j < (srt ls).length → (srt ls).getD j 0 = (j : Int) := by
  constructor
  · rintro ⟨_, h1, h2⟩ j hj
    have hnd : (srt ls).Nodup := (srt_perm ls).nodup_iff.2 (ordd_nodup h2)
    have hp : (srt ls).Pairwise (· < ·) := by
      rw [List.pairwise_iff_getElem]
      intro a b ha hb hab
      have e1 := (List.pairwise_iff_getElem.1 (srt_sorted ls)) a b ha hb hab
      have e2 := (List.pairwise_iff_getElem.1 (List.nodup_iff_pairwise_ne.1 hnd)) a b ha hb hab
      omega
    rw [getD_lt hj]
    refine asc_full hp (fun x hx => ?_) j hj
    have hx' := (srt_perm ls).mem_iff.1 hx
    obtain ⟨i, hi, rfl⟩ := List.getElem_of_mem hx'
    have := h1 i hi
    rw [getD_lt hi] at this
    rw [srt_len]
    omega
  · intro h
    have hmem : ∀ x ∈ srt ls, ∃ j : Nat, j < ls.length ∧ x = (j : Int) := fun x hx => by
      obtain ⟨j, hj, rfl⟩ := List.getElem_of_mem hx
      have := h j hj
      rw [getD_lt hj] at this
      exact ⟨j, by rw [srt_len] at hj; exact hj, this⟩
    have hnd : ls.Nodup := by
      rw [← (srt_perm ls).nodup_iff, List.nodup_iff_pairwise_ne, List.pairwise_iff_getElem]
      intro i j hi hj hij
      have e1 := h i hi
      have e2 := h j hj
      rw [getD_lt hi] at e1
      rw [getD_lt hj] at e2
      omega
    refine ⟨hl, fun i hi => ?_, fun i hi k hk => ?_⟩
    · rw [getD_lt hi]
      obtain ⟨j, hj, e⟩ := hmem _ ((srt_perm ls).mem_iff.2 (List.getElem_mem hi))
      omega
    · have := (List.pairwise_iff_getElem.1 (List.nodup_iff_pairwise_ne.1 hnd)) k i (by omega) hi hk
      rwa [getD_lt (show k < ls.length by omega), getD_lt hi]

set_option maxHeartbeats 2000000 in
theorem isOrder_any (n : Int) (a : Option Addr) (cap : Nat) (ls : List Int) (w : World) (hi : Ints w a ls) (h1 : 1 ≤ n) (h4 : n ≤ 4) (hm : ls.length ≤ 1048576) :
    Calls Tryz.prog 141 #[.int .i64 n, .slice a ls.length cap] w fun e w' => e = .returned (.bool (ordB n ls)) ∧ Below w.heap.size w w' := by
  by_cases hl : (ls.length : Int) = n
  · have hpos : 0 < ls.length := by omega
    have hne : ((ls.length : Int) != n) = false := by rw [bne_eq_false_iff_eq]; exact hl
    have HS := hide (ordd_sorted hl)
    have hb1 := bel1 w (.cells #[.slice a ls.length cap] 35)
    have HSO := hide (sorted_any w.heap.size a cap ls (w.alloc (.cells #[.slice a ls.length cap] 35)) (by simp) (by simp [go_sem]) (hi.below hb1) hm hpos)
    have hsl : (srt ls).length ≤ 1048576 := by rw [srt_len]; exact hm
    clear hl hi
    go_enter Tryz.func141, Tryz.ntmps141
    go_wp2_with ((go_at_call 166; refine (values_any _ _ _ _).mono ?_; rintro e w' ⟨rfl, rfl⟩))
    refine HSO.out.mono ?_
    rintro e w2 ⟨v, rfl, ov, hb2⟩
    have hB := bnext hb1 hb2
    obtain ⟨av, cv, rfl, iv, _⟩ := ov.form
    clear hb1 hb2 ov hne
    go_wp2
    go_loop [15] (fun i => ∃ k : Nat, k ≤ (srt ls).length ∧ i = .int .i64 k ∧ ∀ j, j < k → (srt ls).getD j 0 = (j : Int)) (fun i => (srt ls).length - (intOf i).toNat)
    case atStart => exact ⟨0, Nat.zero_le _, rfl, fun j hj => by omega⟩
    case round =>
      obtain ⟨k, hk, rfl, hall⟩ := hrel
      have HA := hide hall
      clear hall
      by_cases hlt : k < (srt ls).length
      · obtain ⟨b, off, rfl, hbl, hc⟩ := iv (by omega)
        have hck := hc k hlt
        by_cases he : (srt ls).getD k 0 = (k : Int)
        · have HE := hide he
          rw [he] at hck
          clear hc iv he
          go_wp2
          go_round
          case rel => exact ⟨k + 1, by omega, by go_num, fun j hj => by
            rcases Nat.lt_or_ge j k with h | h
            · exact HA.out j h
            · obtain rfl : j = k := by omega
              exact HE.out⟩
          case measure => simp only [intOf]; omega
        · have hE : ((srt ls).getD k 0 != (k : Int)) = true := by rw [bne_iff_ne]; exact he
          have HN : Hid (ordB n ls = false) := ordB_false (fun h => he (HS.out.1 h k hlt))
          obtain ⟨x, hx⟩ : ∃ x, (srt ls).getD k 0 = x := ⟨_, rfl⟩
          rw [hx] at hck hE
          clear hc iv he hx
          go_wp2
          go_ret
          exact ⟨ret_bool HN.out.symm, hB⟩
      · obtain rfl : k = (srt ls).length := by omega
        have HN : Hid (ordB n ls = true) := ordB_true (HS.out.2 HA.out)
        go_wp2
        go_ret
        exact ⟨ret_bool HN.out.symm, hB⟩
  · have hne : ((ls.length : Int) != n) = true := by rw [bne_iff_ne]; exact hl
    have HN := hide (ordB_false (fun h : OrdOk n ls => hl h.1))
    clear hl
    go_enter Tryz.func141, Tryz.ntmps141
    go_wp2
    go_ret
    exact ⟨ret_bool HN.out.symm, Below.refl _ _⟩
end Go.Proofs.YtgebplpbnaeckaaGreatDoor

/- Turn: Issues settled in turn: what comes of it, the program's loop and the model's loop. -/
namespace Go.Proofs.YtgebplpbnaeckaaGreatDoor
open Go.RowKit Go.Joins

/-- one issue more: the answer of more than half, or the other one if that is not open -/
def stpT (zs vs : List Int) (s : Nat × Nat) (j : Nat) : Nat × Nat :=
  (s.1 + 2 ^ j, if openB zs ((s.1 + 2 ^ j : Nat) : Int) ((s.2 + (if vs.length < 2 * supN vs j then 2 ^ j else 0) : Nat) : Int) = true then s.2 + (if vs.length < 2 * supN vs j then 2 ^ j else 0)
    else (s.2 + (if vs.length < 2 * supN vs j then 2 ^ j else 0)) ^^^ 2 ^ j)
def turnK (zs vs ls : List Int) : Nat → Nat × Nat
  | 0 => (0, 0)
  | k + 1 => stpT zs vs (turnK zs vs ls k) (ls.getD k 0).toNat
def turnV (n : Int) (zs vs ls : List Int) : Int := if (vvB n zs vs && ordB n ls) = true then ((turnK zs vs ls ls.length).2 : Nat) else -1
theorem turnV_yes {n : Int} {zs vs ls : List Int} (h : vvB n zs vs = true) (h2 : ordB n ls = true) : turnV n zs vs ls = ((turnK zs vs ls ls.length).2 : Nat) := if_pos (by rw [h, h2]; rfl)
theorem turnV_no1 {n : Int} {zs vs ls : List Int} (h : vvB n zs vs = false) : turnV n zs vs ls = -1 := if_neg (by rw [h, Bool.false_and]; decide)
theorem turnV_no2 {n : Int} {zs vs ls : List Int} (h : ordB n ls = false) : turnV n zs vs ls = -1 := if_neg (by rw [h, Bool.and_false]; decide)

theorem tf1 : ∀ c : Fin 16, ∀ j : Fin 4, bitN c.val j.val = 0 → c.val ||| 2 ^ j.val = c.val + 2 ^ j.val ∧ c.val + 2 ^ j.val < 16 := by decide +kernel
theorem tf2 : ∀ c b : Fin 16, ∀ j : Fin 4, bitN c.val j.val = 0 → b.val &&& c.val = b.val → b.val ||| 2 ^ j.val = b.val + 2 ^ j.val ∧ b.val + 2 ^ j.val < 16 ∧ (b.val + 2 ^ j.val) &&& (c.val + 2 ^ j.val) = b.val + 2 ^ j.val ∧ b.val &&& (c.val + 2 ^ j.val) = b.val ∧ (b.val + 2 ^ j.val) ^^^ 2 ^ j.val = b.val ∧ b.val ^^^ 2 ^ j.val = b.val + 2 ^ j.val := by decide +kernel
theorem tf3 : ∀ c : Fin 16, ∀ i j : Fin 4, bitN c.val j.val = 0 → bitN (c.val + 2 ^ j.val) i.val = if i.val = j.val then 1 else bitN c.val i.val := by decide +kernel
/-- what holds of the part when k issues are settled -/
def TInv (ls : List Int) (k : Nat) (s : Nat × Nat) : Prop := s.1 < 16 ∧ s.2 < 16 ∧ s.2 &&& s.1 = s.2 ∧ ∀ i, i < 4 → (bitN s.1 i = 1 ↔ ∃ t, t < k ∧ ls.getD t 0 = (i : Int))
theorem ord_at {n : Int} {ls : List Int} (h : OrdOk n ls) (h4 : n ≤ 4) {k : Nat} (hk : k < ls.length) : ∃ j : Nat, ls[k] = (j : Int) ∧ j < 4 ∧ (j : Int) < n ∧ (ls.getD k 0).toNat = j := by
  have := h.2.1 k hk
  rw [getD_lt hk] at this
  exact ⟨ls[k].toNat, by omega, by omega, by omega, by rw [getD_lt hk]⟩
theorem tinv {n : Int} {zs vs ls : List Int} (h : OrdOk n ls) (h4 : n ≤ 4) : ∀ k, k ≤ ls.length → TInv ls k (turnK zs vs ls k)
  | 0, _ => ⟨by simp [turnK], by simp [turnK], by simp [turnK], fun i _ => by simp [turnK, bitN]⟩
  | k + 1, hk => by
    obtain ⟨hc, hb, hbc, hbits⟩ := tinv (zs := zs) (vs := vs) h h4 k (by omega)
    obtain ⟨j, hj, hj4, _, hjn⟩ := ord_at h h4 (k := k) (by omega)
    have h0 : bitN (turnK zs vs ls k).1 j = 0 := by
      have hle := bitN_le (turnK zs vs ls k).1 j
      rcases (show bitN (turnK zs vs ls k).1 j = 0 ∨ bitN (turnK zs vs ls k).1 j = 1 by omega) with h1 | h1
      · exact h1
      · obtain ⟨t, ht, e⟩ := (hbits j hj4).1 h1
        have := h.2.2 k (by omega) t ht
        rw [getD_lt (show k < ls.length by omega), hj] at this
        exact absurd e this
    have f1 := (tf1 ⟨_, hc⟩ ⟨j, hj4⟩ h0).2
    have f2 := tf2 ⟨_, hc⟩ ⟨_, hb⟩ ⟨j, hj4⟩ h0 hbc
    simp only at f1 f2
    have e : turnK zs vs ls (k + 1) = stpT zs vs (turnK zs vs ls k) j := by rw [turnK, hjn]
    rw [e]
    have both : (stpT zs vs (turnK zs vs ls k) j).2 = (turnK zs vs ls k).2 ∨ (stpT zs vs (turnK zs vs ls k) j).2 = (turnK zs vs ls k).2 + 2 ^ j := by
      unfold stpT
      by_cases hs : vs.length < 2 * supN vs j
      · simp only [if_pos hs]
        split
        · exact .inr rfl
        · exact .inl f2.2.2.2.2.1
      · simp only [if_neg hs, Nat.add_zero]
        split
        · exact .inl rfl
        · exact .inr f2.2.2.2.2.2
    refine ⟨f1, ?_, ?_, fun i hi => ?_⟩
    · rcases both with e2 | e2
      · rw [e2]; exact hb
      · rw [e2]; exact f2.2.1
    · rcases both with e2 | e2
      · rw [e2]; exact f2.2.2.2.1
      · rw [e2]; exact f2.2.2.1
    · have f3 := tf3 ⟨_, hc⟩ ⟨i, hi⟩ ⟨j, hj4⟩ h0
      simp only at f3
      show bitN ((turnK zs vs ls k).1 + 2 ^ j) i = 1 ↔ _
      rw [f3]
      constructor
      · intro hh
        split at hh
        · rename_i hij
          exact ⟨k, by omega, by rw [getD_lt (show k < ls.length by omega), hj, hij]⟩
        · obtain ⟨t, ht, et⟩ := (hbits i hi).1 hh
          exact ⟨t, by omega, et⟩
      · rintro ⟨t, ht, et⟩
        split
        · rfl
        · rename_i hij
          rcases Nat.lt_or_ge t k with h1 | h1
          · exact (hbits i hi).2 ⟨t, h1, et⟩
          · obtain rfl : t = k := by omega
            rw [getD_lt (show t < ls.length by omega), hj] at et
            omega
/-- What one step needs. -/
theorem tstep {n : Int} {zs vs ls : List Int} (h : OrdOk n ls) (h4 : n ≤ 4) {k : Nat} (hk : k < ls.length) :
    ∃ j : Nat, ls[k] = (j : Int) ∧ j < 4 ∧ (j : Int) < n ∧ turnK zs vs ls (k + 1) = stpT zs vs (turnK zs vs ls k) j ∧ (turnK zs vs ls k).1 < 16 ∧ (turnK zs vs ls k).2 < 16 ∧
      (turnK zs vs ls k).1 ||| 2 ^ j = (turnK zs vs ls k).1 + 2 ^ j ∧ (turnK zs vs ls k).1 + 2 ^ j < 16 ∧ (turnK zs vs ls k).2 ||| 2 ^ j = (turnK zs vs ls k).2 + 2 ^ j ∧ (turnK zs vs ls k).2 + 2 ^ j < 16 := by
  obtain ⟨hc, hb, hbc, hbits⟩ := tinv (zs := zs) (vs := vs) h h4 k (by omega)
  obtain ⟨j, hj, hj4, hjn, hjt⟩ := ord_at h h4 hk
  have h0 : bitN (turnK zs vs ls k).1 j = 0 := by
    have hle := bitN_le (turnK zs vs ls k).1 j
    rcases (show bitN (turnK zs vs ls k).1 j = 0 ∨ bitN (turnK zs vs ls k).1 j = 1 by omega) with h1 | h1
    · exact h1
    · obtain ⟨t, ht, e⟩ := (hbits j hj4).1 h1
      have := h.2.2 k hk t ht
      rw [getD_lt hk, hj] at this
      exact absurd e this
  have f1 := tf1 ⟨_, hc⟩ ⟨j, hj4⟩ h0
  have f2 := tf2 ⟨_, hc⟩ ⟨_, hb⟩ ⟨j, hj4⟩ h0 hbc
  simp only at f1 f2
  exact ⟨j, hj, hj4, hjn, by rw [turnK, hjt], hc, hb, f1.1, f1.2, f2.1, f2.2.1⟩
theorem bits_or : ∀ p q : Fin 16, bits .or .i64 ((p.val : Nat) : Int) ((q.val : Nat) : Int) = ((p.val ||| q.val : Nat) : Int) := by decide +kernel
theorem bits_xor : ∀ p q : Fin 16, bits .xor .i64 ((p.val : Nat) : Int) ((q.val : Nat) : Int) = ((p.val ^^^ q.val : Nat) : Int) := by decide +kernel
theorem bits_and : ∀ p q : Fin 16, bits .and .i64 ((p.val : Nat) : Int) ((q.val : Nat) : Int) = ((p.val &&& q.val : Nat) : Int) := by decide +kernel
theorem tpush : ∀ k : Fin 4, ∀ a : Fin 16, ∀ j : Fin 4, a.val < 2 ^ k.val → bitN (a.val + 2 ^ k.val) j.val = if j.val = k.val then 1 else bitN a.val j.val := by decide +kernel
theorem tbitB (vs : List Int) (j : Nat) (hj : j < 4) : ∀ k, k ≤ 4 → bitN (wantB vs k) j = if j < k ∧ vs.length < 2 * supN vs j then 1 else 0
  | 0, _ => by simp [wantB, bitN]
  | k + 1, h => by
    have ih := tbitB vs j hj k (by omega)
    have hlt := wantB_lt vs k
    have h16 : wantB vs k < 16 := Nat.lt_of_lt_of_le hlt (Nat.pow_le_pow_right (n := 2) (by omega) (show k ≤ 4 by omega))
    by_cases he : vs.length < 2 * supN vs k
    · have hp := tpush ⟨k, by omega⟩ ⟨wantB vs k, h16⟩ ⟨j, hj⟩ hlt
      simp only at hp
      rw [wantB_yes he, hp, ih]
      by_cases hjk : j = k
      · subst hjk
        rw [if_pos rfl, if_pos ⟨by omega, he⟩]
      · rw [if_neg hjk]
        by_cases hjl : j < k
        · simp [hjl, show j < k + 1 by omega]
        · rw [if_neg (by omega), if_neg (by omega)]
    · rw [wantB_no he, ih]
      by_cases hjk : j < k
      · simp [hjk, show j < k + 1 by omega]
      · rw [if_neg (by omega), if_neg]
        rintro ⟨h1, h2⟩
        obtain rfl : j = k := by omega
        exact he h2
theorem and_pow : ∀ M : Fin 16, ∀ j : Fin 4, M.val &&& 2 ^ j.val = if bitN M.val j.val = 1 then 2 ^ j.val else 0 := by decide +kernel
theorem maj_and {vs : List Int} {m j : Nat} (hm : m ≤ 4) (hj : j < m) : wantB vs m &&& 2 ^ j = if vs.length < 2 * supN vs j then 2 ^ j else 0 := by
  have h16 : wantB vs m < 16 := Nat.lt_of_lt_of_le (wantB_lt vs m) (Nat.pow_le_pow_right (n := 2) (by omega) hm)
  have h := and_pow ⟨_, h16⟩ ⟨j, by omega⟩
  simp only at h
  rw [h, tbitB vs j (by omega) m hm]
  by_cases hs : vs.length < 2 * supN vs j
  · rw [if_pos (show (if j < m ∧ vs.length < 2 * supN vs j then 1 else 0) = 1 from if_pos ⟨hj, hs⟩), if_pos hs]
  · rw [if_neg (show ¬ (if j < m ∧ vs.length < 2 * supN vs j then 1 else 0) = 1 from by rw [if_neg (fun h => hs h.2)]; omega), if_neg hs]
theorem stpT_open {zs vs : List Int} {c b j q : Nat} (hq : (if vs.length < 2 * supN vs j then 2 ^ j else 0) = q) (h : openB zs ((c + 2 ^ j : Nat) : Int) ((b + q : Nat) : Int) = true) : stpT zs vs (c, b) j = (c + 2 ^ j, b + q) := by
  subst hq
  unfold stpT
  rw [if_pos h]
theorem stpT_shut {zs vs : List Int} {c b j q : Nat} (hq : (if vs.length < 2 * supN vs j then 2 ^ j else 0) = q) (h : openB zs ((c + 2 ^ j : Nat) : Int) ((b + q : Nat) : Int) = false) : stpT zs vs (c, b) j = (c + 2 ^ j, (b + q) ^^^ 2 ^ j) := by
  subst hq
  unfold stpT
  rw [if_neg (by rw [h]; decide)]
end Go.Proofs.YtgebplpbnaeckaaGreatDoor
