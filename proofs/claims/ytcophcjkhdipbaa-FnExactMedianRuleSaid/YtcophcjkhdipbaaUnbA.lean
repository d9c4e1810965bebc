/- The judgments than which no other one is better: a loop over the judgments in a loop over the judgments (by isNearerToAll). -/
import Derived.Test.YtcophcjkhdipbaaUnb
import Derived.Scope
import Derived.WalkMore
namespace Go.Proofs.Ytcophcjkhdipbaa
open Go.RowKit Go.Joins

attribute [local go_sem] Oper.semAt_some

set_option maxRecDepth 100000 in
set_option maxHeartbeats 4000000 in
theorem unbeatenA_any (b : Int → Int → Bool) (n : Int) (a l : Option Addr) (cap capl m : Nat) (zs : List Int) (C B : Int) (w : World) (hi : Ints w a zs) (hn : zs.length ≤ 1048576)
    (hf : ∀ (y x : Int) (w' : World), y ∈ zs → x ∈ zs → Below w.heap.size w w' → Calls Try.prog 66 #[.agg #[.int .i64 n, .slice a zs.length cap, .slice l m capl, .int .i64 C, .int .i64 B], .int .i64 y, .int .i64 x] w' fun e w'' => e = .returned (.bool (b y x)) ∧ Below w'.heap.size w' w'') :
    Calls Try.prog 70 #[.agg #[.int .i64 n, .slice a zs.length cap, .slice l m capl, .int .i64 C, .int .i64 B], .func (.func 66) #[.agg #[.int .i64 n, .slice a zs.length cap, .slice l m capl, .int .i64 C, .int .i64 B]] #[]] w (Gives (unbL b zs) w) := by
  obtain ⟨i0, hi0, hz0, hz1, hz2⟩ := info_parts info_int
  have HF := hide hf
  clear hf
  have hIt := hide (judgments_iter 5 n a l cap capl m zs C B w hi hn)
  have hIt2 := hide (judgments_iter 3 n a l cap capl m zs C B w hi hn)
  obtain ⟨W0, hW0⟩ : ∃ W0 : World, ((w.alloc (.cells #[.int .i64 n, .slice a zs.length cap, .slice l m capl, .int .i64 C, .int .i64 B] 61)).alloc (.cells #[.func (.func 66) #[.agg #[.int .i64 n, .slice a zs.length cap, .slice l m capl, .int .i64 C, .int .i64 B]] #[]] 62)).alloc (.cells #[.slice none 0 0] 22) = W0 := ⟨_, rfl⟩
  have p0 : W0.heap[w.heap.size]? = some (.cells #[.int .i64 n, .slice a zs.length cap, .slice l m capl, .int .i64 C, .int .i64 B] 61 (0, 0)) := by
    rw [← hW0]
    exact (Below.heap_alloc _ _ _ (by simp; omega)).trans ((Below.heap_alloc _ _ _ (by simp)).trans (World.alloc_heap_new w _))
  have f0 : Boxed W0 (w.heap.size + 1) 62 (.func (.func 66) #[.agg #[.int .i64 n, .slice a zs.length cap, .slice l m capl, .int .i64 C, .int .i64 B]] #[]) := by
    rw [← hW0]
    have h := (Boxed.new (w.alloc (.cells #[.int .i64 n, .slice a zs.length cap, .slice l m capl, .int .i64 C, .int .i64 B] 61)) 62 (.func (.func 66) #[.agg #[.int .i64 n, .slice a zs.length cap, .slice l m capl, .int .i64 C, .int .i64 B]] #[])).alloc (.cells #[.slice none 0 0] 22)
    rwa [World.size_alloc] at h
  have l0 : Boxed W0 (w.heap.size + 1 + 1) 22 (.slice none 0 0) := by
    rw [← hW0]
    have h := Boxed.new ((w.alloc (.cells #[.int .i64 n, .slice a zs.length cap, .slice l m capl, .int .i64 C, .int .i64 B] 61)).alloc (.cells #[.func (.func 66) #[.agg #[.int .i64 n, .slice a zs.length cap, .slice l m capl, .int .i64 C, .int .i64 B]] #[]] 62)) 22 (.slice none 0 0)
    rwa [World.size_alloc, World.size_alloc] at h
  have hB0 : Below w.heap.size w W0 := by rw [← hW0]; exact bel3 _ _ _ _
  have hsz : W0.heap.size = w.heap.size + 3 := by rw [← hW0]; simp
  refine (callsIn_wide (n := 6)).1 ?_
  refine callsIn_of_wp_marks Try.func70 rfl trivial ?_ rfl
  simp only [Try.ntmps70, List.size_toArray, List.length_cons, List.length_nil, Nat.reduceAdd, Nat.reduceSub, Array.replicate_succ, Array.replicate_zero, List.push_toArray, List.append_toArray, List.nil_append, List.cons_append]
  gi_wp2
  refine wpIn_wide.2 (wp_scope_straight ((wpIn_wide (n := 6)).1 ?_))
  gi_wp2
  clear hW0
  refine wpIn_label ?_
  have hUI : OwnFrom W0.heap.size (UnbI b zs w #[.int .i64 n, .slice a zs.length cap, .slice l m capl, .int .i64 C, .int .i64 B] (.func (.func 66) #[.agg #[.int .i64 n, .slice a zs.length cap, .slice l m capl, .int .i64 C, .int .i64 B]] #[])) := UnbI.own (by omega)
  have hu0 : UnbI b zs w #[.int .i64 n, .slice a zs.length cap, .slice l m capl, .int .i64 C, .int .i64 B] (.func (.func 66) #[.agg #[.int .i64 n, .slice a zs.length cap, .slice l m capl, .int .i64 C, .int .i64 B]] #[]) [] W0 := ⟨⟨⟨_, l0, World.ownsRow_nil _ _ _ _, trivial⟩, p0, f0⟩, hB0⟩
  have HU := hide hUI
  have HU0 := hide hu0
  have c0 := cell_of_block p0 0
  have c1 := cell_of_block p0 1
  have c2 := cell_of_block p0 2
  have c3 := cell_of_block p0 3
  have c4 := cell_of_block p0 4
  clear hUI hu0 hi
  gi_wp2
  clear c0 c1 c2 c3 c4 p0 f0 l0
  refine range_outer (F := Fence.wide) rfl (by omega) (gf := 85) (fb := #[.agg #[.int .i64 n, .slice a zs.length cap, .slice l m capl, .int .i64 C, .int .i64 B]]) rfl trivial (enters_of Try.func85 (by kernel_rfl) rfl) rfl hIt.out
    (UnbI b zs w #[.int .i64 n, .slice a zs.length cap, .slice l m capl, .int .i64 C, .int .i64 B] (.func (.func 66) #[.agg #[.int .i64 n, .slice a zs.length cap, .slice l m capl, .int .i64 C, .int .i64 B]] #[])) (fun _ _ => False) HU.out (fun _ _ _ _ h _ _ => h) (fun s V h => h.2) HU0.out ?round ?done ?stop
  case stop => exact fun c V h => h.elim
  case done =>
    rintro V ⟨⟨⟨v, bv, ov, _⟩, pA, bF⟩, hB⟩ hD
    have hc := bv.cell
    clear HU HU0 hIt hIt2 HF
    gi_wp2
    rw [Exit.noGoto_ret]
    refine ⟨by simp, .inl ⟨_, _, rfl, run_takeDeferred hD, ?_⟩⟩
    exact ⟨_, results_tmp rfl _ _ _, v, rfl, ownsRow_putObj ov _ hD rfl, hB.trans (belowK_b (w := w) (Nat.le_refl _) V W0.heap.size _ _ (by omega) hD rfl rfl)⟩
  case round =>
    rintro s x W hp ⟨r, hr⟩ hi
    have hx : x ∈ zs := hp.subset (by simp)
    have hlen : s.length < zs.length := by have := hp.length_le; simp at this; omega
    have hlt := (Array.getElem?_eq_some_iff.1 hr).1
    clear hIt HU0
    gi_wp2
    refine ⟨(KeepsOthers.alloc _ _).from _, fun V hg ⟨r1, hr1⟩ ⟨r2, hr2⟩ => ?_⟩
    have hi1 := HU.out s _ V _ (HU.out.alloc (.cells #[.int .i64 x] 3) hi) hg (fun r e => by cases e; exact ⟨by omega, _, hr1, rfl⟩)
    have bX : Boxed V W.heap.size 3 (.int .i64 x) := (Boxed.new W _ _).kept hg (by simp; omega)
    have HI := hide hi1
    obtain ⟨⟨_, pA, bF⟩, hB⟩ := hi1
    have cF := bF.cell
    have cX := bX.cell
    have c0 := cell_of_block pA 0
    have c1 := cell_of_block pA 1
    have c2 := cell_of_block pA 2
    have c3 := cell_of_block pA 3
    have c4 := cell_of_block pA 4
    have hlF := bF.lt
    have hlX := bX.lt
    have HB := hide hB
    have hBV := hB.size
    clear hi hg hr1 pA hB
    gi_wp2
    clear c0 c1 c2 c3 c4
    refine range_inner (l₀ := W0.heap.size + 1) rfl hr2 (by omega) (gf := 85) (fb := #[.agg #[.int .i64 n, .slice a zs.length cap, .slice l m capl, .int .i64 C, .int .i64 B]]) rfl trivial (enters_of Try.func85 (by kernel_rfl) rfl) rfl hIt2.out
      (fun s' U => (∀ y ∈ s', b y x = false) ∧ Below V.heap.size V U) (fun c U => (c = .exit 1 ∧ ∃ y ∈ zs, b y x = true) ∧ Below V.heap.size V U)
      (OwnFrom.and (ownFrom_pure _ _) (ownFrom_below (Nat.le_refl _) (Nat.le_refl _))) (OwnFrom.and (ownFrom_pure _ _) (ownFrom_below (Nat.le_refl _) (Nat.le_refl _)))
      (fun s' U h => HB.out.trans (h.2.mono hBV)) ⟨fun y h => (by cases h), Below.refl _ _⟩ ?round2 ?done2 ?stop2
    case round2 =>
      rintro s' y U hp' ⟨r3, hr3⟩ ⟨hall, hB2⟩
      have hy : y ∈ zs := hp'.subset (by simp)
      gi_wp2
      refine ⟨KeepsFrom.refl _ _, fun U' hg' _ _ => ?_⟩
      have hB3 : Below V.heap.size V U' := hB2.grown hg' hB2.size (fun k e => by cases e; exact Nat.le_refl _)
      have cF' := (hB3.cell (p := ⟨w.heap.size + 1, 0, none⟩) hlF).trans cF
      have cX' := (hB3.cell (p := ⟨W.heap.size, 0, none⟩) hlX).trans cX
      have HAL := hide hall
      clear hg' hr3 hB2 cF cX hall hr2 bX bF hp hp' HI
      have HX : ∀ {r : Bool}, b y x = r → Calls Try.prog 66 #[.agg #[.int .i64 n, .slice a zs.length cap, .slice l m capl, .int .i64 C, .int .i64 B], .int .i64 y, .int .i64 x] U' fun e w'' => e = .returned (.bool r) ∧ Below U'.heap.size U' w'' := fun e => by rw [← e]; exact HF.out y x U' hy hx (HB.out.trans (hB3.mono hBV))
      have HN3 := hide hB3
      clear hB3 HB
      by_cases hb : b y x = true
      · have HBT := hide hb
        gi_wp2
        refine ⟨trivial, (CallsIn.inRound _ (CallsIn.inRound _ (callsIn_wide.2 (HX hb)))).mono ?_⟩
        rintro e U2 ⟨rfl, hb4⟩
        gi_wp2
        exact ⟨keeps_below hb4 _, ⟨rfl, y, hy, HBT.out⟩, bnext HN3.out hb4⟩
      · have hb : b y x = false := by simpa using hb
        have HBT := hide hb
        gi_wp2
        refine ⟨trivial, (CallsIn.inRound _ (CallsIn.inRound _ (callsIn_wide.2 (HX hb)))).mono ?_⟩
        rintro e U2 ⟨rfl, hb4⟩
        gi_wp2
        refine ⟨keeps_below hb4 _, fun z hz => ?_, bnext HN3.out hb4⟩
        rcases List.mem_append.1 hz with h | h
        · exact HAL.out z h
        · obtain rfl : z = y := by simpa using h
          exact HBT.out
    case stop2 =>
      rintro c U ⟨⟨rfl, y, hy, hb⟩, hB2⟩
      obtain ⟨⟨⟨v, bv, ov, _⟩, pA, bF⟩, hB⟩ := HI.out
      have HNO := hide (unbP_no (b := b) ⟨y, hy, hb⟩)
      have HB2 := hide hB2
      clear hB2 bX hr2
      gi_wp2
      refine ⟨keeps_below HB2.out _, ⟨⟨v, (HB2.out.block _ bv.lt).trans bv, ?_, trivial⟩, (HB2.out.block _ (Array.getElem?_eq_some_iff.1 pA).1).trans pA, (HB2.out.block _ bF.lt).trans bF⟩, hB.trans (HB2.out.mono hBV)⟩
      rw [filter_snoc, HNO.out, if_neg (by decide), List.append_nil]
      exact Owns.below ov HB2.out
    case done2 =>
      rintro U ⟨hall, hB2⟩
      obtain ⟨⟨⟨v, bv, ov, _⟩, pA, bF⟩, hB⟩ := HI.out
      have HYES := hide (unbP_yes hall)
      have hv : Boxed U (w.heap.size + 1 + 1) 22 v := (hB2.block _ bv.lt).trans bv
      have hrow : U.ownsRow w.heap.size 3 1 v (s.filter (unbP b zs)).length ((s.filter (unbP b zs)).map (Value.int .i64)) := Owns.below ov hB2
      have HPA : Hid (U.heap[w.heap.size]? = some (.cells #[.int .i64 n, .slice a zs.length cap, .slice l m capl, .int .i64 C, .int .i64 B] 61 (0, 0))) := (hB2.block _ (Array.getElem?_eq_some_iff.1 pA).1).trans pA
      have HBF : Hid (U.heap[w.heap.size + 1]? = some (.cells #[.func (.func 66) #[.agg #[.int .i64 n, .slice a zs.length cap, .slice l m capl, .int .i64 C, .int .i64 B]] #[]] 62 (0, 0))) := (hB2.block _ bF.lt).trans bF
      have cX2 := (hB2.cell (p := ⟨W.heap.size, 0, none⟩) hlX).trans cX
      have cv := hv.cell
      have hfl : (s.filter (unbP b zs)).length ≤ s.length := List.length_filter_le _ _
      have hB' : Below w.heap.size w U := hB.trans (hB2.mono hBV)
      have hUs := hB'.size
      have HB' := hide hB'
      have HB2 := hide hB2
      clear hall hB2 bX bv ov pA bF hB hB' hr2 cX cF HI HU HF hIt2 hp hr hlt
      gi_wp2_with ((gi_at_builtin; refine wpListIn_append_own _ rfl _ _ 22 rfl w.heap.size 3 i0 (.int .i64 0) 1 8 Try.underlying22 hi0 hz0 hz1 hz2 rfl (by decide) _ _ _ rfl (hrow.alloc _) ⟨U.heap.size, 0, none⟩ 1 1 [.int .i64 x] rfl rfl (cell_one_new _ _ _) (by simp [Value.oneCell']) (by unfold maxLen; omega) (by omega) (by simp; omega) ?_; intro v' w1 hown' hgrow _; obtain ⟨g', cap', rfl⟩ := ownsRow_succ hown'; obtain ⟨hv1, hv2, hr2, hk2, hb2⟩ := hv.appended (by decide) hrow hUs (by omega) hown' hgrow; have hc1 := hv1.cell; have hf1 := hv1.frozen))
      refine ⟨(keeps_below HB2.out _).trans (hk2.from _), ⟨⟨_, hv2, ?_, trivial⟩, block_past HPA.out (by decide) hrow hgrow (by omega), block_past HBF.out (by decide) hrow hgrow (by omega)⟩, HB'.out.trans hb2⟩
      rw [filter_snoc, HYES.out, if_pos rfl, List.length_append, List.map_append]
      exact hr2
end Go.Proofs.Ytcophcjkhdipbaa
