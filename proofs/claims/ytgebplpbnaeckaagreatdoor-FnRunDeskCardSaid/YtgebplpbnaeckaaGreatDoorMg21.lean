/- Texts of this seat one behind the other: PollJ, Unb, UnbA, BstA. Conditions: none. -/
import Derived.Test.YtgebplpbnaeckaaGreatDoorMg13
import Derived.Test.YtgebplpbnaeckaaGreatDoorMg03
import Derived.Test.YtgebplpbnaeckaaGreatDoorMg09
import Derived.Test.YtgebplpbnaeckaaGreatDoorMg11
import Derived.RangeFuncCalls
import Derived.Shelf.Abstract
import Derived.Shelf.RegionOpen
import Derived.WalkKit
import Derived.OwnWalkIn
import Derived.TacticsInMore
import Derived.LoopNIn
import Derived.LoopIn
import Derived.Maps.AppendAt
import Derived.Scope
import Derived.WalkMore
import Derived.Deep.DeepCutAuto
import Derived.Laws.EntriesVeiled

/- PollJ: The judgments of a poll: what the iterator hands over. -/
namespace Go.Proofs.YtgebplpbnaeckaaGreatDoor
open Go.RowKit

attribute [local go_sem] Oper.semAt_some

theorem take_step {zs : List Int} {k : Nat} (h : k < zs.length) : zs.take k ++ [zs[k]] = zs.take (k + 1) := by
  rw [List.take_add_one, List.getElem?_eq_getElem h]; rfl

set_option maxRecDepth 100000 in
set_option maxHeartbeats 2000000 in
theorem judgments_iter (N : Nat) (n : Int) (a l : Option Addr) (cap capl m : Nat) (zs : List Int) (C B : Int) (w0 : World) (hi : Ints w0 a zs) (hn : zs.length ≤ 1048576) :
    Iter Fence.wide N Tryz.prog 164 #[.agg #[.int .i64 n, .slice a zs.length cap, .slice l m capl, .int .i64 C, .int .i64 B]] zs w0 := by
  intro q J Jx W hJb hJa hY h0
  have h1 := hJa [] W (.cells #[.int .i64 n, .slice a zs.length cap, .slice l m capl, .int .i64 C, .int .i64 B] 165) h0
  refine callsIn_of_wp Tryz.func164 rfl trivial ?_ rfl
  simp only [Tryz.ntmps164, List.size_toArray, List.length_cons, List.length_nil, Nat.reduceAdd, Nat.reduceSub, Array.replicate_succ, Array.replicate_zero, List.push_toArray, List.append_toArray, List.nil_append, List.cons_append]
  gi_wp2
  gi_loopw [10] (fun i wr => ∃ k : Nat, k ≤ zs.length ∧ i = .int .i64 k ∧ J (zs.take k) wr) (fun i _ => zs.length - (intOf i).toNat)
  case atStart => exact ⟨0, Nat.zero_le _, rfl, h1⟩
  case round =>
    obtain ⟨k, hk, rfl, hj⟩ := hrel
    by_cases hlt : k < zs.length
    · obtain ⟨b, off, rfl, hbl, hc⟩ := (hi.below (hJb _ _ hj)) (by omega)
      have hck := hc k hlt
      rw [getD_lt hlt] at hck
      obtain ⟨fn, tmps, assign, body, hy, hR⟩ := hY (zs.take k) zs[k] wr (by rw [take_step hlt]; exact List.take_prefix _ _) hj
      have HT := take_step hlt
      clear hc hi hY hJb hJa
      gi_wp2
      refine ⟨fun h => (by cases h), hR.mono ?_⟩
      rintro e W3 (⟨rfl, hj3⟩ | ⟨rfl, hx3⟩)
      · gi_wp2
        go_roundw
        case rel => exact ⟨k + 1, by omega, by go_num, by rw [← HT]; exact hj3⟩
        case measure => simp [intOf]; omega
      · gi_wp2
        refine bodyPost_ret (results_none rfl _ _ _) rfl ?_
        exact ⟨⟨_, rfl⟩, .inr hx3⟩
    · obtain rfl : k = zs.length := by omega
      rw [List.take_length] at hj
      gi_wp2
      go_end0
      exact ⟨⟨_, rfl⟩, .inl hj⟩
end Go.Proofs.YtgebplpbnaeckaaGreatDoor

/- Unb: What holds between two rounds of the loop over a poll's judgments that collects those than which no other one is better. -/
namespace Go.Proofs.YtgebplpbnaeckaaGreatDoor
open Go.RowKit Go.Joins

theorem block_own {β : Type} (B : Nat) (cs : Array Value) (t : TypeId) : Own (fun (_ : β) (W : World) => W.heap[B]? = some (.cells cs t (0, 0))) := fun s X Y row hs hg hrow => by
  refine (hg.block B (Array.getElem?_eq_some_iff.1 hs).1 (fun e' => ?_)).trans hs
  obtain ⟨o, ho, hc⟩ := hrow B e'.symm
  rw [show X.heap[B]? = _ from hs] at ho; cases ho; cases hc

def UnbI (b : Int → Int → Bool) (zs : List Int) (w : World) (cs : Array Value) (fv : Value) (s : List Int) (W : World) : Prop :=
  ((∃ v, Boxed W (w.heap.size + 1 + 1) 35 v ∧ W.ownsRow w.heap.size 3 1 v (s.filter (unbP b zs)).length ((s.filter (unbP b zs)).map (Value.int .i64)) ∧ True) ∧
    (W.heap[w.heap.size]? = some (.cells cs 165 (0, 0)) ∧ Boxed W (w.heap.size + 1) 150 fv)) ∧ Below w.heap.size w W
theorem UnbI.own {b : Int → Int → Bool} {zs : List Int} {w : World} {cs : Array Value} {fv : Value} {K : Nat} (hK : w.heap.size ≤ K) : OwnFrom K (UnbI b zs w cs fv) :=
  OwnFrom.and (OwnFrom.and (Own.from (holdsRow_own _ _ _ _ _ _ _ (fun _ _ => True)) _) (OwnFrom.and (Own.from (block_own _ _ _) _) (Own.from (boxed_own _ _ _) _))) (ownFrom_below (Nat.le_refl _) hK)
theorem keeps_below {W W' : World} (h : Below W.heap.size W W') (B : Nat) : KeepsFrom B W W' := ⟨h.size, fun k _ _ hk _ => (h.block k (Array.getElem?_eq_some_iff.1 hk).1).trans hk⟩
theorem block_past {W w1 : World} {B P : Nat} {cs : Array Value} {t e : TypeId} {base size k : Nat} {v u : Value} {xs : List Value} {tmp : Obj} (h : W.heap[B]? = some (.cells cs t (0, 0))) (hte : t ≠ e) (hr : W.ownsRow base e size v k xs)
    (hg : (W.alloc tmp).grownBy w1 v.ownBlock) (hne : B ≠ P) : (w1.setCell ⟨P, 0, none⟩ u).heap[B]? = some (.cells cs t (0, 0)) := by
  have hlt := (Array.getElem?_eq_some_iff.1 h).1
  refine (Below.heap_setCell _ _ _ _ hne).trans ((hg.block B (by simp; omega) ?_).trans ((Below.heap_alloc W tmp B hlt).trans h))
  rcases hr.2 with ⟨rfl, _⟩ | ⟨g, cap, cur, rfl, _, hgb, _⟩
  · simp [Value.ownBlock]
  · intro e'
    obtain rfl : B = g := by simpa [Value.ownBlock] using e'
    have := h.symm.trans hgb
    simp at this
    exact hte this.2
theorem filter_snoc (p : Int → Bool) (s : List Int) (x : Int) : (s ++ [x]).filter p = s.filter p ++ (if p x then [x] else []) := by
  rw [List.filter_append]
  by_cases h : p x = true <;> simp [h]
end Go.Proofs.YtgebplpbnaeckaaGreatDoor

/- UnbA: The judgments than which no other one is better: a loop over the judgments in a loop over the judgments (by isNearerToAll). -/
namespace Go.Proofs.YtgebplpbnaeckaaGreatDoor
open Go.RowKit Go.Joins

attribute [local go_sem] Oper.semAt_some

set_option maxRecDepth 100000 in
set_option maxHeartbeats 4000000 in
theorem unbeatenA_any (b : Int → Int → Bool) (n : Int) (a l : Option Addr) (cap capl m : Nat) (zs : List Int) (C B : Int) (w : World) (hi : Ints w a zs) (hn : zs.length ≤ 1048576)
    (hf : ∀ (y x : Int) (w' : World), y ∈ zs → x ∈ zs → Below w.heap.size w w' → Calls Tryz.prog 136 #[.agg #[.int .i64 n, .slice a zs.length cap, .slice l m capl, .int .i64 C, .int .i64 B], .int .i64 y, .int .i64 x] w' fun e w'' => e = .returned (.bool (b y x)) ∧ Below w'.heap.size w' w'') :
    Calls Tryz.prog 140 #[.agg #[.int .i64 n, .slice a zs.length cap, .slice l m capl, .int .i64 C, .int .i64 B], .func (.func 136) #[.agg #[.int .i64 n, .slice a zs.length cap, .slice l m capl, .int .i64 C, .int .i64 B]] #[]] w (Gives (unbL b zs) w) := by
  obtain ⟨i0, hi0, hz0, hz1, hz2⟩ := info_parts info_int
  have HF := hide hf
  clear hf
  have hIt := hide (judgments_iter 5 n a l cap capl m zs C B w hi hn)
  have hIt2 := hide (judgments_iter 3 n a l cap capl m zs C B w hi hn)
  obtain ⟨W0, hW0⟩ : ∃ W0 : World, ((w.alloc (.cells #[.int .i64 n, .slice a zs.length cap, .slice l m capl, .int .i64 C, .int .i64 B] 165)).alloc (.cells #[.func (.func 136) #[.agg #[.int .i64 n, .slice a zs.length cap, .slice l m capl, .int .i64 C, .int .i64 B]] #[]] 150)).alloc (.cells #[.slice none 0 0] 35) = W0 := ⟨_, rfl⟩
  have p0 : W0.heap[w.heap.size]? = some (.cells #[.int .i64 n, .slice a zs.length cap, .slice l m capl, .int .i64 C, .int .i64 B] 165 (0, 0)) := by
    rw [← hW0]
    exact (Below.heap_alloc _ _ _ (by simp; omega)).trans ((Below.heap_alloc _ _ _ (by simp)).trans (World.alloc_heap_new w _))
  have f0 : Boxed W0 (w.heap.size + 1) 150 (.func (.func 136) #[.agg #[.int .i64 n, .slice a zs.length cap, .slice l m capl, .int .i64 C, .int .i64 B]] #[]) := by
    rw [← hW0]
    have h := (Boxed.new (w.alloc (.cells #[.int .i64 n, .slice a zs.length cap, .slice l m capl, .int .i64 C, .int .i64 B] 165)) 150 (.func (.func 136) #[.agg #[.int .i64 n, .slice a zs.length cap, .slice l m capl, .int .i64 C, .int .i64 B]] #[])).alloc (.cells #[.slice none 0 0] 35)
    rwa [World.size_alloc] at h
  have l0 : Boxed W0 (w.heap.size + 1 + 1) 35 (.slice none 0 0) := by
    rw [← hW0]
    have h := Boxed.new ((w.alloc (.cells #[.int .i64 n, .slice a zs.length cap, .slice l m capl, .int .i64 C, .int .i64 B] 165)).alloc (.cells #[.func (.func 136) #[.agg #[.int .i64 n, .slice a zs.length cap, .slice l m capl, .int .i64 C, .int .i64 B]] #[]] 150)) 35 (.slice none 0 0)
    rwa [World.size_alloc, World.size_alloc] at h
  have hB0 : Below w.heap.size w W0 := by rw [← hW0]; exact bel3 _ _ _ _
  have hsz : W0.heap.size = w.heap.size + 3 := by rw [← hW0]; simp
  refine (callsIn_wide (n := 6)).1 ?_
  refine callsIn_of_wp_marks Tryz.func140 rfl trivial ?_ rfl
  simp only [Tryz.ntmps140, List.size_toArray, List.length_cons, List.length_nil, Nat.reduceAdd, Nat.reduceSub, Array.replicate_succ, Array.replicate_zero, List.push_toArray, List.append_toArray, List.nil_append, List.cons_append]
  gi_wp2
  refine wpIn_wide.2 (wp_scope_straight ((wpIn_wide (n := 6)).1 ?_))
  gi_wp2
  clear hW0
  refine wpIn_label ?_
  have hUI : OwnFrom W0.heap.size (UnbI b zs w #[.int .i64 n, .slice a zs.length cap, .slice l m capl, .int .i64 C, .int .i64 B] (.func (.func 136) #[.agg #[.int .i64 n, .slice a zs.length cap, .slice l m capl, .int .i64 C, .int .i64 B]] #[])) := UnbI.own (by omega)
  have hu0 : UnbI b zs w #[.int .i64 n, .slice a zs.length cap, .slice l m capl, .int .i64 C, .int .i64 B] (.func (.func 136) #[.agg #[.int .i64 n, .slice a zs.length cap, .slice l m capl, .int .i64 C, .int .i64 B]] #[]) [] W0 := ⟨⟨⟨_, l0, World.ownsRow_nil _ _ _ _, trivial⟩, p0, f0⟩, hB0⟩
  have HU := hide hUI
  have HU0 := hide hu0
  have c0 := cell_of_block p0 0
  have c1 := cell_of_block p0 1
  have c2 := cell_of_block p0 2
  have c3 := cell_of_block p0 3
  have c4 := cell_of_block p0 4
  clear hUI hu0 hi
  gi_wp2
  clear c0 c1 c2 c3 c4 p0 f0 l0
  refine range_outer (F := Fence.wide) rfl (by omega) (gf := 164) (fb := #[.agg #[.int .i64 n, .slice a zs.length cap, .slice l m capl, .int .i64 C, .int .i64 B]]) rfl trivial (enters_of Tryz.func164 (by kernel_rfl) rfl) rfl hIt.out
    (UnbI b zs w #[.int .i64 n, .slice a zs.length cap, .slice l m capl, .int .i64 C, .int .i64 B] (.func (.func 136) #[.agg #[.int .i64 n, .slice a zs.length cap, .slice l m capl, .int .i64 C, .int .i64 B]] #[])) (fun _ _ => False) HU.out (fun _ _ _ _ h _ _ => h) (fun s V h => h.2) HU0.out ?round ?done ?stop
  case stop => exact fun c V h => h.elim
  case done =>
    rintro V ⟨⟨⟨v, bv, ov, _⟩, pA, bF⟩, hB⟩ hD
    have hc := bv.cell
    clear HU HU0 hIt hIt2 HF
    gi_wp2
    rw [Exit.noGoto_ret]
    refine ⟨by simp, .inl ⟨_, _, rfl, run_takeDeferred hD, ?_⟩⟩
    exact ⟨_, results_tmp rfl _ _ _, v, rfl, ownsRow_putObj ov _ hD rfl, hB.trans (belowK_b (w := w) (Nat.le_refl _) V W0.heap.size _ _ (by omega) hD rfl rfl)⟩
  case round =>
    rintro s x W hp ⟨r, hr⟩ hi
    have hx : x ∈ zs := hp.subset (by simp)
    have hlen : s.length < zs.length := by have := hp.length_le; simp at this; omega
    have hlt := (Array.getElem?_eq_some_iff.1 hr).1
    clear hIt HU0
    gi_wp2
    refine ⟨(KeepsOthers.alloc _ _).from _, fun V hg ⟨r1, hr1⟩ ⟨r2, hr2⟩ => ?_⟩
    have hi1 := HU.out s _ V _ (HU.out.alloc (.cells #[.int .i64 x] 3) hi) hg (fun r e => by cases e; exact ⟨by omega, _, hr1, rfl⟩)
    have bX : Boxed V W.heap.size 3 (.int .i64 x) := (Boxed.new W _ _).kept hg (by simp; omega)
    have HI := hide hi1
    obtain ⟨⟨_, pA, bF⟩, hB⟩ := hi1
    have cF := bF.cell
    have cX := bX.cell
    have c0 := cell_of_block pA 0
    have c1 := cell_of_block pA 1
    have c2 := cell_of_block pA 2
    have c3 := cell_of_block pA 3
    have c4 := cell_of_block pA 4
    have hlF := bF.lt
    have hlX := bX.lt
    have HB := hide hB
    have hBV := hB.size
    clear hi hg hr1 pA hB
    gi_wp2
    clear c0 c1 c2 c3 c4
    refine range_inner (l₀ := W0.heap.size + 1) rfl hr2 (by omega) (gf := 164) (fb := #[.agg #[.int .i64 n, .slice a zs.length cap, .slice l m capl, .int .i64 C, .int .i64 B]]) rfl trivial (enters_of Tryz.func164 (by kernel_rfl) rfl) rfl hIt2.out
      (fun s' U => (∀ y ∈ s', b y x = false) ∧ Below V.heap.size V U) (fun c U => (c = .exit 1 ∧ ∃ y ∈ zs, b y x = true) ∧ Below V.heap.size V U)
      (OwnFrom.and (ownFrom_pure _ _) (ownFrom_below (Nat.le_refl _) (Nat.le_refl _))) (OwnFrom.and (ownFrom_pure _ _) (ownFrom_below (Nat.le_refl _) (Nat.le_refl _)))
      (fun s' U h => HB.out.trans (h.2.mono hBV)) ⟨fun y h => (by cases h), Below.refl _ _⟩ ?round2 ?done2 ?stop2
    case round2 =>
      rintro s' y U hp' ⟨r3, hr3⟩ ⟨hall, hB2⟩
      have hy : y ∈ zs := hp'.subset (by simp)
      gi_wp2
      refine ⟨KeepsFrom.refl _ _, fun U' hg' _ _ => ?_⟩
      have hB3 : Below V.heap.size V U' := hB2.grown hg' hB2.size (fun k e => by cases e; exact Nat.le_refl _)
      have cF' := (hB3.cell (p := ⟨w.heap.size + 1, 0, none⟩) hlF).trans cF
      have cX' := (hB3.cell (p := ⟨W.heap.size, 0, none⟩) hlX).trans cX
      have HAL := hide hall
      clear hg' hr3 hB2 cF cX hall hr2 bX bF hp hp' HI
      have HX : ∀ {r : Bool}, b y x = r → Calls Tryz.prog 136 #[.agg #[.int .i64 n, .slice a zs.length cap, .slice l m capl, .int .i64 C, .int .i64 B], .int .i64 y, .int .i64 x] U' fun e w'' => e = .returned (.bool r) ∧ Below U'.heap.size U' w'' := fun e => by rw [← e]; exact HF.out y x U' hy hx (HB.out.trans (hB3.mono hBV))
      have HN3 := hide hB3
      clear hB3 HB
      by_cases hb : b y x = true
      · have HBT := hide hb
        gi_wp2
        refine ⟨trivial, (CallsIn.inRound _ (CallsIn.inRound _ (callsIn_wide.2 (HX hb)))).mono ?_⟩
        rintro e U2 ⟨rfl, hb4⟩
        gi_wp2
        exact ⟨keeps_below hb4 _, ⟨rfl, y, hy, HBT.out⟩, bnext HN3.out hb4⟩
      · have hb : b y x = false := by simpa using hb
        have HBT := hide hb
        gi_wp2
        refine ⟨trivial, (CallsIn.inRound _ (CallsIn.inRound _ (callsIn_wide.2 (HX hb)))).mono ?_⟩
        rintro e U2 ⟨rfl, hb4⟩
        gi_wp2
        refine ⟨keeps_below hb4 _, fun z hz => ?_, bnext HN3.out hb4⟩
        rcases List.mem_append.1 hz with h | h
        · exact HAL.out z h
        · obtain rfl : z = y := by simpa using h
          exact HBT.out
    case stop2 =>
      rintro c U ⟨⟨rfl, y, hy, hb⟩, hB2⟩
      obtain ⟨⟨⟨v, bv, ov, _⟩, pA, bF⟩, hB⟩ := HI.out
      have HNO := hide (unbP_no (b := b) ⟨y, hy, hb⟩)
      have HB2 := hide hB2
      clear hB2 bX hr2
      gi_wp2
      refine ⟨keeps_below HB2.out _, ⟨⟨v, (HB2.out.block _ bv.lt).trans bv, ?_, trivial⟩, (HB2.out.block _ (Array.getElem?_eq_some_iff.1 pA).1).trans pA, (HB2.out.block _ bF.lt).trans bF⟩, hB.trans (HB2.out.mono hBV)⟩
      rw [filter_snoc, HNO.out, if_neg (by decide), List.append_nil]
      exact Owns.below ov HB2.out
    case done2 =>
      rintro U ⟨hall, hB2⟩
      obtain ⟨⟨⟨v, bv, ov, _⟩, pA, bF⟩, hB⟩ := HI.out
      have HYES := hide (unbP_yes hall)
      have hv : Boxed U (w.heap.size + 1 + 1) 35 v := (hB2.block _ bv.lt).trans bv
      have hrow : U.ownsRow w.heap.size 3 1 v (s.filter (unbP b zs)).length ((s.filter (unbP b zs)).map (Value.int .i64)) := Owns.below ov hB2
      have HPA : Hid (U.heap[w.heap.size]? = some (.cells #[.int .i64 n, .slice a zs.length cap, .slice l m capl, .int .i64 C, .int .i64 B] 165 (0, 0))) := (hB2.block _ (Array.getElem?_eq_some_iff.1 pA).1).trans pA
      have HBF : Hid (U.heap[w.heap.size + 1]? = some (.cells #[.func (.func 136) #[.agg #[.int .i64 n, .slice a zs.length cap, .slice l m capl, .int .i64 C, .int .i64 B]] #[]] 150 (0, 0))) := (hB2.block _ bF.lt).trans bF
      have cX2 := (hB2.cell (p := ⟨W.heap.size, 0, none⟩) hlX).trans cX
      have cv := hv.cell
      have hfl : (s.filter (unbP b zs)).length ≤ s.length := List.length_filter_le _ _
      have hB' : Below w.heap.size w U := hB.trans (hB2.mono hBV)
      have hUs := hB'.size
      have HB' := hide hB'
      have HB2 := hide hB2
      clear hall hB2 bX bv ov pA bF hB hB' hr2 cX cF HI HU HF hIt2 hp hr hlt
      gi_wp2_with ((gi_at_builtin; refine wpListIn_append_own _ rfl _ _ 35 rfl w.heap.size 3 i0 (.int .i64 0) 1 8 Tryz.underlying35 hi0 hz0 hz1 hz2 rfl (by decide) _ _ _ rfl (hrow.alloc _) ⟨U.heap.size, 0, none⟩ 1 1 [.int .i64 x] rfl rfl (cell_one_new _ _ _) (by simp [Value.oneCell']) (by unfold maxLen; omega) (by omega) (by simp; omega) ?_; intro v' w1 hown' hgrow _; obtain ⟨g', cap', rfl⟩ := ownsRow_succ hown'; obtain ⟨hv1, hv2, hr2, hk2, hb2⟩ := hv.appended (by decide) hrow hUs (by omega) hown' hgrow; have hc1 := hv1.cell; have hf1 := hv1.frozen))
      refine ⟨(keeps_below HB2.out _).trans (hk2.from _), ⟨⟨_, hv2, ?_, trivial⟩, block_past HPA.out (by decide) hrow hgrow (by omega), block_past HBF.out (by decide) hrow hgrow (by omega)⟩, HB'.out.trans hb2⟩
      rw [filter_snoc, HYES.out, if_pos rfl, List.length_append, List.map_append]
      exact hr2
end Go.Proofs.YtgebplpbnaeckaaGreatDoor

/- BstA: bestBy by isNearerToAll, and MedianRule of the program. -/
namespace Go.Proofs.YtgebplpbnaeckaaGreatDoor
open Go.RowKit Go.Joins

set_option maxRecDepth 100000 in
set_option maxHeartbeats 4000000 in
theorem bestByA_any (n : Int) (a l : Option Addr) (cap capl : Nat) (zs vs : List Int) (w : World) (hi : Ints w a zs) (hj : Ints w l vs) (hn : zs.length ≤ 1048576) (hm : vs.length ≤ 1048576) :
    Calls Tryz.prog 110 #[.int .i64 0, .agg #[.int .i64 n, .slice a zs.length cap], .slice l vs.length capl] w (Gives (bestA n zs vs) w) := by
  have S0 := SV.new w n a zs cap l vs 37 hi hj
  clear hi hj
  by_cases hv : vvB n zs vs = false
  · have HN := hide (bestA_no hv)
    have HV := hide hv
    clear hv
    obtain ⟨⟨_, c0, c1⟩, _⟩ := S0.pair
    go_enter Tryz.func110, Tryz.ntmps110
    go_wp2_with fail
    refine (implVotes_is _ _ _ _ _ _ _ _ false S0.2.1 S0.2.2.1 hn hm HV.out).mono ?_
    rintro e w1 ⟨rfl, hb⟩
    go_wp2
    go_ret
    exact gives_nil HN.out (S0.below hb).2.2.2
  · have hv : vvB n zs vs = true := by simpa using hv
    have hV := vv_of hv
    obtain ⟨m, rfl⟩ := Int.eq_ofNat_of_zero_le (show 0 ≤ n from by have := hV.1.1; omega)
    have h4 : m ≤ 4 := by have := hV.1.1; omega
    have h5 : vs.length ≤ 5 := by have := hV.2.2; omega
    have HZ := hide (valid_range hV.1)
    have HR := hide (votes_range hV.1 hV.2)
    have HN := hide (show bestA (m : Int) zs vs = unbL (fun y x => decide (totN vs y < totN vs x)) zs from bestA_yes hv)
    have HV := hide hv
    have HC := hide (wpC_yes hv)
    have HB := hide (wpB_yes hv)
    have H16 := hide (want_16 vs m h4)
    clear hv hV
    obtain ⟨⟨_, c0, c1⟩, _⟩ := S0.pair
    go_enter Tryz.func110, Tryz.ntmps110
    go_wp2_with fail
    refine (implVotes_is _ _ _ _ _ _ _ _ true S0.2.1 S0.2.2.1 hn hm HV.out).mono ?_
    rintro e w1 ⟨rfl, hb⟩
    have S1 := S0.below hb
    clear S0 hb c0 c1
    obtain ⟨⟨_, c0, c1⟩, _⟩ := S1.pair
    go_wp2_with fail
    go_cut [7] (fun v wx => ∃ g : Nat, v = .pointer (some ⟨g, 0, none⟩) ∧ w1.heap.size ≤ g ∧ wx.heap[g]? = some (.cells #[.int .i64 m, .slice a zs.length cap, .slice l vs.length capl, .int .i64 (wantC vs m : Nat), .int .i64 (wantB vs m : Nat)] 165 (0, 0)) ∧ Below w1.heap.size w1 wx)
    case first =>
      refine wp_region_held_drew (S := (fun w' => w'.cell? ⟨w.heap.size, 0, none⟩ = some (.int .i64 m) ∧ w'.cell? ⟨w.heap.size, 1, none⟩ = some (.slice a zs.length cap))) (by kernel_rfl) ?_ (fun hHeld => ?_)
      · exact ⟨c0, c1⟩
      refine wpAnyH_take (i := 0) (v := ?vvt1) rfl (by kernel_rfl) (by kernel_rfl) (by kernel_rfl) (fun _ _ _ h => h) (Or.inl ⟨by rfl, ?hyt1⟩) (by assumption) ?restt1
      case hyt1 => (intro w hSw; (try dsimp only at hSw); go_simp; (try with_reducible rfl))
      case restt1 =>
        (try simp only [Act.put, List.setIfInBounds_toArray, List.set_cons_zero, List.set_cons_succ, List.getElem_toArray, List.getElem_cons_zero])
        refine wpAnyH_take (i := 1) (v := ?vvt2) rfl (by kernel_rfl) (by kernel_rfl) (by kernel_rfl) (fun _ _ _ h => h) (Or.inl ⟨by rfl, ?hyt2⟩) (by assumption) ?restt2
        case hyt2 => (intro w hSw; (try dsimp only at hSw); go_simp; (try with_reducible rfl))
        case restt2 =>
          (try simp only [Act.put, List.setIfInBounds_toArray, List.set_cons_zero, List.set_cons_succ, List.getElem_toArray, List.getElem_cons_zero, List.getElem_cons_succ])
          refine wpAnyH_take (i := 2) (v := ?vvt3) rfl (by kernel_rfl) (by kernel_rfl) (by kernel_rfl) (fun _ _ _ h => h) (Or.inl ⟨by rfl, ?hyt3⟩) (by assumption) ?restt3
          case hyt3 => (intro w hSw; (try dsimp only at hSw); go_simp; (try with_reducible rfl))
          case restt3 =>
            (try simp only [Act.put, List.setIfInBounds_toArray, List.set_cons_zero, List.set_cons_succ, List.getElem_toArray, List.getElem_cons_zero, List.getElem_cons_succ])
            refine wpAnyH_take (i := 3) (v := ?vvt4) rfl (by kernel_rfl) (by kernel_rfl) (by kernel_rfl) (fun _ _ _ h => h) (Or.inl ⟨by rfl, ?hyt4⟩) (by assumption) ?restt4
            case hyt4 => (intro w hSw; (try dsimp only at hSw); go_simp; (try with_reducible rfl))
            case restt4 =>
              (try simp only [Act.put, List.setIfInBounds_toArray, List.set_cons_zero, List.set_cons_succ, List.getElem_toArray, List.getElem_cons_zero, List.getElem_cons_succ])
              refine wpAnyH_ready (rs := [4, 6]) (by kernel_rfl) (by simp) ?_
              refine (AllReadyH.cons rfl (fun K hK => ?_) (AllReadyH.cons rfl (fun K hK => ?_) AllReadyH.nil))
              · go_simp
                (go_at_call 108; refine (implWanted_any _ _ _ _ _ _ _ _ (S1.drew).2.1 (S1.drew).2.2.1 hn hm).mono ?_)
                rintro e w2 ⟨rfl, hb2⟩
                have S2 := S1.drew.below hb2
                have B2 := hide (bdrew hb2)
                rw [HC.out, HB.out, Int.toNat_natCast]
                go_wp2_with fail
                refine hK.out _ _ ?_ (fun hHeld => ?_)
                · exact S2.1.2
                clear hK K
                (try simp only [Act.put, List.setIfInBounds_toArray, List.set_cons_zero, List.set_cons_succ, List.getElem_toArray, List.getElem_cons_zero, List.getElem_cons_succ])
                refine wpAnyH_take (i := 5) (v := ?vvt5) rfl (by kernel_rfl) (by kernel_rfl) (by kernel_rfl) (fun _ _ _ h => h) (Or.inl ⟨by rfl, ?hyt5⟩) (by assumption) ?restt5
                case hyt5 => (intro w hSw; (try dsimp only at hSw); go_simp; (try with_reducible rfl))
                case restt5 =>
                  (try simp only [Act.put, List.setIfInBounds_toArray, List.set_cons_zero, List.set_cons_succ, List.getElem_toArray, List.getElem_cons_zero, List.getElem_cons_succ])
                  refine wpAnyH_ready (rs := [6]) (by kernel_rfl) (by simp) ?_
                  refine (AllReadyH.cons rfl (fun K hK => ?_) AllReadyH.nil)
                  go_simp
                  refine hK.out _ _ ?_ (fun hHeld => ?_)
                  · exact (S2.below (bel1 w2 (.cells #[.int .i64 0, .slice none 0 0, .slice none 0 0, .int .i64 0, .int .i64 0] 165))).1.2
                  clear hK K
                  (try simp only [Act.put, List.setIfInBounds_toArray, List.set_cons_zero, List.set_cons_succ, List.getElem_toArray, List.getElem_cons_zero, List.getElem_cons_succ])
                  refine wpAnyH_ready (rs := [7]) (by kernel_rfl) (by simp) ?_
                  refine (AllReadyH.cons rfl (fun K hK => ?_) AllReadyH.nil)
                  go_simp
                  have SA := S2.below (bel1 w2 (.cells #[.int .i64 m, .slice a zs.length cap, .slice l vs.length capl, .int .i64 (wantC vs m : Nat), .int .i64 (wantB vs m : Nat)] 165))
                  refine hK.out _ _ ?_ (fun hHeld => ?_)
                  · exact SA.1.2
                  clear hK K
                  (try simp only [Act.put, List.setIfInBounds_toArray, List.set_cons_zero, List.set_cons_succ, List.getElem_toArray, List.getElem_cons_zero, List.getElem_cons_succ])
                  refine wpAnyH_done (by kernel_rfl) ?_ _
                  go_wp2_with fail
                  go_meet
                  exact ⟨_, rfl, B2.out.size, heap_alloc_new w2 _, bnext B2.out (bel1 w2 _)⟩
              · go_simp
                have S2 := S1.below (bdrew' (bel1 w1 (.cells #[.int .i64 0, .slice none 0 0, .slice none 0 0, .int .i64 0, .int .i64 0] 165)))
                refine hK.out _ _ ?_ (fun hHeld => ?_)
                · exact S2.1.2
                clear hK K
                (try simp only [Act.put, List.setIfInBounds_toArray, List.set_cons_zero, List.set_cons_succ, List.getElem_toArray, List.getElem_cons_zero, List.getElem_cons_succ])
                refine wpAnyH_ready (rs := [4]) (by kernel_rfl) (by simp) ?_
                refine (AllReadyH.cons rfl (fun K hK => ?_) AllReadyH.nil)
                go_simp
                (go_at_call 108; refine (implWanted_any _ _ _ _ _ _ _ _ (S2).2.1 (S2).2.2.1 hn hm).mono ?_)
                rintro e w2 ⟨rfl, hb2⟩
                have S3 := S2.below hb2
                have hg2 : w2.heap[w1.heap.size]? = some (.cells #[.int .i64 0, .slice none 0 0, .slice none 0 0, .int .i64 0, .int .i64 0] 165 (0, 0)) := (hb2.block _ (by simp)).trans (heap_alloc_new w1 (.cells #[.int .i64 0, .slice none 0 0, .slice none 0 0, .int .i64 0, .int .i64 0] 165))
                have f0 := unfrozen_of_block hg2 0
                have f1 := unfrozen_of_block hg2 1
                have f2 := unfrozen_of_block hg2 2
                have f3 := unfrozen_of_block hg2 3
                have f4 := unfrozen_of_block hg2 4
                have r0 := cell_of_block hg2 0
                have r1 := cell_of_block hg2 1
                have r2 := cell_of_block hg2 2
                have r3 := cell_of_block hg2 3
                have r4 := cell_of_block hg2 4
                have B2 := hide (bnext (bdrew' (bel1 w1 (.cells #[.int .i64 0, .slice none 0 0, .slice none 0 0, .int .i64 0, .int .i64 0] 165))) hb2)
                rw [HC.out, HB.out, Int.toNat_natCast]
                go_wp2_with fail
                refine hK.out _ _ ?_ (fun hHeld => ?_)
                · exact S3.1.2
                clear hK K
                (try simp only [Act.put, List.setIfInBounds_toArray, List.set_cons_zero, List.set_cons_succ, List.getElem_toArray, List.getElem_cons_zero, List.getElem_cons_succ])
                refine wpAnyH_take (i := 5) (v := ?vvt6) rfl (by kernel_rfl) (by kernel_rfl) (by kernel_rfl) (fun _ _ _ h => h) (Or.inl ⟨by rfl, ?hyt6⟩) (by assumption) ?restt6
                case hyt6 => (intro w hSw; (try dsimp only at hSw); go_simp; (try with_reducible rfl))
                case restt6 =>
                  (try simp only [Act.put, List.setIfInBounds_toArray, List.set_cons_zero, List.set_cons_succ, List.getElem_toArray, List.getElem_cons_zero, List.getElem_cons_succ])
                  refine wpAnyH_ready (rs := [7]) (by kernel_rfl) (by simp) ?_
                  refine (AllReadyH.cons rfl (fun K hK => ?_) AllReadyH.nil)
                  go_simp
                  have BB := (((((B2.out.setCell (p := ⟨w1.heap.size, 0, none⟩) (Nat.le_refl _) (.int .i64 m)).setCell (p := ⟨w1.heap.size, 1, none⟩) (Nat.le_refl _) (.slice a zs.length cap)).setCell (p := ⟨w1.heap.size, 2, none⟩) (Nat.le_refl _) (.slice l vs.length capl)).setCell (p := ⟨w1.heap.size, 3, none⟩) (Nat.le_refl _) (.int .i64 (wantC vs m : Nat))).setCell (p := ⟨w1.heap.size, 4, none⟩) (Nat.le_refl _) (.int .i64 (wantB vs m : Nat)))
                  have SB := S1.below BB
                  refine hK.out _ _ ?_ (fun hHeld => ?_)
                  · exact SB.1.2
                  clear hK K
                  (try simp only [Act.put, List.setIfInBounds_toArray, List.set_cons_zero, List.set_cons_succ, List.getElem_toArray, List.getElem_cons_zero, List.getElem_cons_succ])
                  refine wpAnyH_done (by kernel_rfl) ?_ _
                  go_wp2_with fail
                  go_meet
                  exact ⟨_, rfl, Nat.le_refl _, block_setCell (i := 4) (block_setCell (i := 3) (block_setCell (i := 2) (block_setCell (i := 1) (block_setCell (i := 0) hg2 _) _) _) _) _, BB⟩
    case rest =>
      obtain ⟨g, rfl, hg1, hgb, BG⟩ := hcut
      have q0 := cell_of_block hgb 0
      have q1 := cell_of_block hgb 1
      have q2 := cell_of_block hgb 2
      have q3 := cell_of_block hgb 3
      have q4 := cell_of_block hgb 4
      have S2 := S1.below BG
      clear S1 c0 c1
      have hgf := heap_alloc_new wc (.cells #[.nilFunc, .nilFunc, .nilFunc, .nilFunc] 166)
      have s0 := cell_of_block hgf 0
      have s1 := cell_of_block hgf 1
      have s2 := cell_of_block hgf 2
      have s3 := cell_of_block hgf 3
      have f0 := unfrozen_of_block hgf 0
      have f1 := unfrozen_of_block hgf 1
      have f2 := unfrozen_of_block hgf 2
      have f3 := unfrozen_of_block hgf 3
      go_wp2_with fail
      obtain ⟨wd, hwd⟩ : ∃ wd : World, wc.alloc (.cells #[.func (.func 136) #[.agg #[.int .i64 m, .slice a zs.length cap, .slice l vs.length capl, .int .i64 (wantC vs m : Nat), .int .i64 (wantB vs m : Nat)]] #[], .func (.func 137) #[.agg #[.int .i64 m, .slice a zs.length cap, .slice l vs.length capl, .int .i64 (wantC vs m : Nat), .int .i64 (wantB vs m : Nat)]] #[], .func (.func 138) #[.agg #[.int .i64 m, .slice a zs.length cap, .slice l vs.length capl, .int .i64 (wantC vs m : Nat), .int .i64 (wantB vs m : Nat)]] #[], .func (.func 139) #[.agg #[.int .i64 m, .slice a zs.length cap, .slice l vs.length capl, .int .i64 (wantC vs m : Nat), .int .i64 (wantB vs m : Nat)]] #[]] 166) = wd := ⟨_, rfl⟩
      have BD : Below wc.heap.size wc wd := by rw [← hwd]; exact bel1 _ _
      have hgd : wd.heap[wc.heap.size]? = some (.cells #[.func (.func 136) #[.agg #[.int .i64 m, .slice a zs.length cap, .slice l vs.length capl, .int .i64 (wantC vs m : Nat), .int .i64 (wantB vs m : Nat)]] #[], .func (.func 137) #[.agg #[.int .i64 m, .slice a zs.length cap, .slice l vs.length capl, .int .i64 (wantC vs m : Nat), .int .i64 (wantB vs m : Nat)]] #[], .func (.func 138) #[.agg #[.int .i64 m, .slice a zs.length cap, .slice l vs.length capl, .int .i64 (wantC vs m : Nat), .int .i64 (wantB vs m : Nat)]] #[], .func (.func 139) #[.agg #[.int .i64 m, .slice a zs.length cap, .slice l vs.length capl, .int .i64 (wantC vs m : Nat), .int .i64 (wantB vs m : Nat)]] #[]] 166 (0, 0)) := by rw [← hwd]; exact heap_alloc_new wc _
      rw [hwd]
      clear hwd s0 s1 s2 s3 f0 f1 f2 f3 hgf
      have hgg := lt_of_block hgb
      have S3 := S2.below (bdrew' BD)
      have q0 := (BD.cell (p := ⟨g, 0, none⟩) hgg).trans q0
      have q1 := (BD.cell (p := ⟨g, 1, none⟩) hgg).trans q1
      have q2 := (BD.cell (p := ⟨g, 2, none⟩) hgg).trans q2
      have q3 := (BD.cell (p := ⟨g, 3, none⟩) hgg).trans q3
      have q4 := (BD.cell (p := ⟨g, 4, none⟩) hgg).trans q4
      have qk := cell_of_block hgd 0
      have hlg := lt_of_block hgd
      have hgg2 : g < wd.heap.size := Nat.lt_of_lt_of_le hgg BD.size
      have hW := S3.2.2.2
      have hIZ := S3.2.1
      have hIV := hide S3.2.2.1
      clear S2 S3 BD hgd hgb
      refine wp_region_held_drew (S := (fun w' => w'.cell? ⟨g, 0, none⟩ = some (.int .i64 m) ∧ w'.cell? ⟨g, 1, none⟩ = some (.slice a zs.length cap) ∧ w'.cell? ⟨g, 2, none⟩ = some (.slice l vs.length capl) ∧ w'.cell? ⟨g, 3, none⟩ = some (.int .i64 (wantC vs m : Nat)) ∧ w'.cell? ⟨g, 4, none⟩ = some (.int .i64 (wantB vs m : Nat)) ∧ w'.cell? ⟨wc.heap.size, 0, none⟩ = some (.func (.func 136) #[.agg #[.int .i64 m, .slice a zs.length cap, .slice l vs.length capl, .int .i64 (wantC vs m : Nat), .int .i64 (wantB vs m : Nat)]] #[]))) (by kernel_rfl) ?_ (fun hHeld => ?_)
      · exact ⟨q0, q1, q2, q3, q4, qk⟩
      refine wpAnyH_take (i := 0) (v := ?vvt7) rfl (by kernel_rfl) (by kernel_rfl) (by kernel_rfl) (fun _ _ _ h => h) (Or.inl ⟨by rfl, ?hyt7⟩) (by assumption) ?restt7
      case hyt7 => (intro w hSw; (try dsimp only at hSw); go_simp; (try with_reducible rfl))
      case restt7 =>
        (try simp only [Act.put, List.setIfInBounds_toArray, List.set_cons_zero, List.set_cons_succ, List.getElem_toArray, List.getElem_cons_zero])
        refine wpAnyH_take (i := 1) (v := ?vvt8) rfl (by kernel_rfl) (by kernel_rfl) (by kernel_rfl) (fun _ _ _ h => h) (Or.inl ⟨by rfl, ?hyt8⟩) (by assumption) ?restt8
        case hyt8 => (intro w hSw; (try dsimp only at hSw); go_simp; (try with_reducible rfl))
        case restt8 =>
          (try simp only [Act.put, List.setIfInBounds_toArray, List.set_cons_zero, List.set_cons_succ, List.getElem_toArray, List.getElem_cons_zero, List.getElem_cons_succ])
          refine wpAnyH_take (i := 2) (v := ?vvt9) rfl (by kernel_rfl) (by kernel_rfl) (by kernel_rfl) (fun _ _ _ h => h) (Or.inl ⟨by rfl, ?hyt9⟩) (by assumption) ?restt9
          case hyt9 => (intro w hSw; (try dsimp only at hSw); go_simp; (try with_reducible rfl))
          case restt9 =>
            (try simp only [Act.put, List.setIfInBounds_toArray, List.set_cons_zero, List.set_cons_succ, List.getElem_toArray, List.getElem_cons_zero, List.getElem_cons_succ])
            refine wpAnyH_take (i := 3) (v := ?vvt10) rfl (by kernel_rfl) (by kernel_rfl) (by kernel_rfl) (fun _ _ _ h => h) (Or.inl ⟨by rfl, ?hyt10⟩) (by assumption) ?restt10
            case hyt10 => (intro w hSw; (try dsimp only at hSw); go_simp; (try with_reducible rfl))
            case restt10 =>
              (try simp only [Act.put, List.setIfInBounds_toArray, List.set_cons_zero, List.set_cons_succ, List.getElem_toArray, List.getElem_cons_zero, List.getElem_cons_succ])
              refine wpAnyH_ready (rs := [4]) (by kernel_rfl) (by simp) ?_
              refine (AllReadyH.cons rfl (fun K hK => ?_) AllReadyH.nil)
              go_simp
              (go_at_call 140; refine (unbeatenA_any (fun y x => decide (totN vs y < totN vs x)) m a l cap capl vs.length zs (wantC vs m : Nat) (wantB vs m : Nat) _ hIZ hn (fun y x w' hy hx hb => nearerAll_any m a l zs.length cap capl vs (wantC vs m : Nat) (wantB vs m : Nat) y x w' (hIV.out.below hb) h5 HR.out (HZ.out y hy) (HZ.out x hx))).mono ?_)
              rintro e w3 ⟨v, rfl, ov, hb3⟩
              obtain ⟨av, cv, rfl, _, _⟩ := ov.form
              have hb3' := bdrew hb3
              have OV := hide ov
              clear ov hIZ
              have p0 := (hb3'.cell (p := ⟨g, 0, none⟩) hgg2).trans q0
              have p1 := (hb3'.cell (p := ⟨g, 1, none⟩) hgg2).trans q1
              have p2 := (hb3'.cell (p := ⟨g, 2, none⟩) hgg2).trans q2
              have p3 := (hb3'.cell (p := ⟨g, 3, none⟩) hgg2).trans q3
              have p4 := (hb3'.cell (p := ⟨g, 4, none⟩) hgg2).trans q4
              have pk := (hb3'.cell (p := ⟨wc.heap.size, 0, none⟩) hlg).trans qk
              go_wp2_with fail
              refine hK.out _ _ ?_ (fun hHeld => ?_)
              · exact ⟨p0, p1, p2, p3, p4, pk⟩
              clear hK K
              (try simp only [Act.put, List.setIfInBounds_toArray, List.set_cons_zero, List.set_cons_succ, List.getElem_toArray, List.getElem_cons_zero, List.getElem_cons_succ])
              refine wpAnyH_take (i := 5) (v := ?vvt11) rfl (by kernel_rfl) (by kernel_rfl) (by kernel_rfl) (fun _ _ _ h => h) (Or.inl ⟨by rfl, ?hyt11⟩) (by assumption) ?restt11
              case hyt11 => (intro w hSw; (try dsimp only at hSw); go_simp; (try with_reducible rfl))
              case restt11 =>
                (try simp only [Act.put, List.setIfInBounds_toArray, List.set_cons_zero, List.set_cons_succ, List.getElem_toArray, List.getElem_cons_zero, List.getElem_cons_succ])
                refine wpAnyH_done (by kernel_rfl) ?_ _
                go_wp2_with fail
                go_ret
                exact ⟨_, rfl, by rw [HN.out]; exact OV.out.le hW.size, bnext hW hb3⟩

theorem implMedianRule_any (n : Int) (a l : Option Addr) (cap capl : Nat) (zs vs : List Int) (w : World) (hi : Ints w a zs) (hj : Ints w l vs) (hn : zs.length ≤ 1048576) (hm : vs.length ≤ 1048576) :
    Calls Tryz.prog 85 #[.agg #[.int .i64 n, .slice a zs.length cap], .slice l vs.length capl] w (Gives (bestA n zs vs) w) := by
  have S0 := SV.new w n a zs cap l vs 37 hi hj
  obtain ⟨⟨_, c0, c1⟩, _⟩ := S0.pair
  clear hi hj
  go_enter Tryz.func85, Tryz.ntmps85
  go_wp2_with fail
  refine (bestByA_any _ _ _ _ _ _ _ _ S0.2.1 S0.2.2.1 hn hm).mono ?_
  rintro e w1 ⟨v, rfl, ov, hb⟩
  go_wp2
  go_ret
  exact ⟨_, rfl, ov.le S0.2.2.2.size, bnext S0.2.2.2 hb⟩
end Go.Proofs.YtgebplpbnaeckaaGreatDoor
