/- Texts of this seat one behind the other: UnbM, BstM, TurnI, TurnS. Conditions: none. -/
import Derived.Test.YtgebplpbnaeckaaGreatDoorMg21
import Derived.Test.YtgebplpbnaeckaaGreatDoorMg09
import Derived.Test.YtgebplpbnaeckaaGreatDoorMg11
import Derived.Test.YtgebplpbnaeckaaGreatDoorMg19
import Derived.Test.YtgebplpbnaeckaaGreatDoorMg13
import Derived.Scope
import Derived.WalkMore
import Derived.Deep.DeepCutAuto
import Derived.Laws.EntriesVeiled
import Derived.RegionTactic
import Derived.BigRegion

/- UnbM: The judgments than which no other one is better: a loop over the judgments in a loop over the judgments (by keepsMore). -/
namespace Go.Proofs.YtgebplpbnaeckaaGreatDoor
open Go.RowKit Go.Joins

attribute [local go_sem] Oper.semAt_some

set_option maxRecDepth 100000 in
set_option maxHeartbeats 4000000 in
theorem unbeatenM_any (b : Int → Int → Bool) (n : Int) (a l : Option Addr) (cap capl m : Nat) (zs : List Int) (C B : Int) (w : World) (hi : Ints w a zs) (hn : zs.length ≤ 1048576)
    (hf : ∀ (y x : Int) (w' : World), y ∈ zs → x ∈ zs → Below w.heap.size w w' → Calls Tryz.prog 139 #[.agg #[.int .i64 n, .slice a zs.length cap, .slice l m capl, .int .i64 C, .int .i64 B], .int .i64 y, .int .i64 x] w' fun e w'' => e = .returned (.bool (b y x)) ∧ Below w'.heap.size w' w'') :
    Calls Tryz.prog 140 #[.agg #[.int .i64 n, .slice a zs.length cap, .slice l m capl, .int .i64 C, .int .i64 B], .func (.func 139) #[.agg #[.int .i64 n, .slice a zs.length cap, .slice l m capl, .int .i64 C, .int .i64 B]] #[]] w (Gives (unbL b zs) w) := by
  obtain ⟨i0, hi0, hz0, hz1, hz2⟩ := info_parts info_int
  have HF := hide hf
  clear hf
  have hIt := hide (judgments_iter 5 n a l cap capl m zs C B w hi hn)
  have hIt2 := hide (judgments_iter 3 n a l cap capl m zs C B w hi hn)
  obtain ⟨W0, hW0⟩ : ∃ W0 : World, ((w.alloc (.cells #[.int .i64 n, .slice a zs.length cap, .slice l m capl, .int .i64 C, .int .i64 B] 165)).alloc (.cells #[.func (.func 139) #[.agg #[.int .i64 n, .slice a zs.length cap, .slice l m capl, .int .i64 C, .int .i64 B]] #[]] 150)).alloc (.cells #[.slice none 0 0] 35) = W0 := ⟨_, rfl⟩
  have p0 : W0.heap[w.heap.size]? = some (.cells #[.int .i64 n, .slice a zs.length cap, .slice l m capl, .int .i64 C, .int .i64 B] 165 (0, 0)) := by
    rw [← hW0]
    exact (Below.heap_alloc _ _ _ (by simp; omega)).trans ((Below.heap_alloc _ _ _ (by simp)).trans (World.alloc_heap_new w _))
  have f0 : Boxed W0 (w.heap.size + 1) 150 (.func (.func 139) #[.agg #[.int .i64 n, .slice a zs.length cap, .slice l m capl, .int .i64 C, .int .i64 B]] #[]) := by
    rw [← hW0]
    have h := (Boxed.new (w.alloc (.cells #[.int .i64 n, .slice a zs.length cap, .slice l m capl, .int .i64 C, .int .i64 B] 165)) 150 (.func (.func 139) #[.agg #[.int .i64 n, .slice a zs.length cap, .slice l m capl, .int .i64 C, .int .i64 B]] #[])).alloc (.cells #[.slice none 0 0] 35)
    rwa [World.size_alloc] at h
  have l0 : Boxed W0 (w.heap.size + 1 + 1) 35 (.slice none 0 0) := by
    rw [← hW0]
    have h := Boxed.new ((w.alloc (.cells #[.int .i64 n, .slice a zs.length cap, .slice l m capl, .int .i64 C, .int .i64 B] 165)).alloc (.cells #[.func (.func 139) #[.agg #[.int .i64 n, .slice a zs.length cap, .slice l m capl, .int .i64 C, .int .i64 B]] #[]] 150)) 35 (.slice none 0 0)
    rwa [World.size_alloc, World.size_alloc] at h
  have hB0 : Below w.heap.size w W0 := by rw [← hW0]; exact bel3 _ _ _ _
  have hsz : W0.heap.size = w.heap.size + 3 := by rw [← hW0]; simp
  refine (callsIn_wide (n := 6)).1 ?_
  refine callsIn_of_wp_marks Tryz.func140 rfl trivial ?_ rfl
  simp only [Tryz.ntmps140, List.size_toArray, List.length_cons, List.length_nil, Nat.reduceAdd, Nat.reduceSub, Array.replicate_succ, Array.replicate_zero, List.push_toArray, List.append_toArray, List.nil_append, List.cons_append]
  gi_wp2
  refine wpIn_wide.2 (wp_scope_straight ((wpIn_wide (n := 6)).1 ?_))
  gi_wp2
  clear hW0
  refine wpIn_label ?_
  have hUI : OwnFrom W0.heap.size (UnbI b zs w #[.int .i64 n, .slice a zs.length cap, .slice l m capl, .int .i64 C, .int .i64 B] (.func (.func 139) #[.agg #[.int .i64 n, .slice a zs.length cap, .slice l m capl, .int .i64 C, .int .i64 B]] #[])) := UnbI.own (by omega)
  have hu0 : UnbI b zs w #[.int .i64 n, .slice a zs.length cap, .slice l m capl, .int .i64 C, .int .i64 B] (.func (.func 139) #[.agg #[.int .i64 n, .slice a zs.length cap, .slice l m capl, .int .i64 C, .int .i64 B]] #[]) [] W0 := ⟨⟨⟨_, l0, World.ownsRow_nil _ _ _ _, trivial⟩, p0, f0⟩, hB0⟩
  have HU := hide hUI
  have HU0 := hide hu0
  have c0 := cell_of_block p0 0
  have c1 := cell_of_block p0 1
  have c2 := cell_of_block p0 2
  have c3 := cell_of_block p0 3
  have c4 := cell_of_block p0 4
  clear hUI hu0 hi
  gi_wp2
  clear c0 c1 c2 c3 c4 p0 f0 l0
  refine range_outer (F := Fence.wide) rfl (by omega) (gf := 164) (fb := #[.agg #[.int .i64 n, .slice a zs.length cap, .slice l m capl, .int .i64 C, .int .i64 B]]) rfl trivial (enters_of Tryz.func164 (by kernel_rfl) rfl) rfl hIt.out
    (UnbI b zs w #[.int .i64 n, .slice a zs.length cap, .slice l m capl, .int .i64 C, .int .i64 B] (.func (.func 139) #[.agg #[.int .i64 n, .slice a zs.length cap, .slice l m capl, .int .i64 C, .int .i64 B]] #[])) (fun _ _ => False) HU.out (fun _ _ _ _ h _ _ => h) (fun s V h => h.2) HU0.out ?round ?done ?stop
  case stop => exact fun c V h => h.elim
  case done =>
    rintro V ⟨⟨⟨v, bv, ov, _⟩, pA, bF⟩, hB⟩ hD
    have hc := bv.cell
    clear HU HU0 hIt hIt2 HF
    gi_wp2
    rw [Exit.noGoto_ret]
    refine ⟨by simp, .inl ⟨_, _, rfl, run_takeDeferred hD, ?_⟩⟩
    exact ⟨_, results_tmp rfl _ _ _, v, rfl, ownsRow_putObj ov _ hD rfl, hB.trans (belowK_b (w := w) (Nat.le_refl _) V W0.heap.size _ _ (by omega) hD rfl rfl)⟩
  case round =>
    rintro s x W hp ⟨r, hr⟩ hi
    have hx : x ∈ zs := hp.subset (by simp)
    have hlen : s.length < zs.length := by have := hp.length_le; simp at this; omega
    have hlt := (Array.getElem?_eq_some_iff.1 hr).1
    clear hIt HU0
    gi_wp2
    refine ⟨(KeepsOthers.alloc _ _).from _, fun V hg ⟨r1, hr1⟩ ⟨r2, hr2⟩ => ?_⟩
    have hi1 := HU.out s _ V _ (HU.out.alloc (.cells #[.int .i64 x] 3) hi) hg (fun r e => by cases e; exact ⟨by omega, _, hr1, rfl⟩)
    have bX : Boxed V W.heap.size 3 (.int .i64 x) := (Boxed.new W _ _).kept hg (by simp; omega)
    have HI := hide hi1
    obtain ⟨⟨_, pA, bF⟩, hB⟩ := hi1
    have cF := bF.cell
    have cX := bX.cell
    have c0 := cell_of_block pA 0
    have c1 := cell_of_block pA 1
    have c2 := cell_of_block pA 2
    have c3 := cell_of_block pA 3
    have c4 := cell_of_block pA 4
    have hlF := bF.lt
    have hlX := bX.lt
    have HB := hide hB
    have hBV := hB.size
    clear hi hg hr1 pA hB
    gi_wp2
    clear c0 c1 c2 c3 c4
    refine range_inner (l₀ := W0.heap.size + 1) rfl hr2 (by omega) (gf := 164) (fb := #[.agg #[.int .i64 n, .slice a zs.length cap, .slice l m capl, .int .i64 C, .int .i64 B]]) rfl trivial (enters_of Tryz.func164 (by kernel_rfl) rfl) rfl hIt2.out
      (fun s' U => (∀ y ∈ s', b y x = false) ∧ Below V.heap.size V U) (fun c U => (c = .exit 1 ∧ ∃ y ∈ zs, b y x = true) ∧ Below V.heap.size V U)
      (OwnFrom.and (ownFrom_pure _ _) (ownFrom_below (Nat.le_refl _) (Nat.le_refl _))) (OwnFrom.and (ownFrom_pure _ _) (ownFrom_below (Nat.le_refl _) (Nat.le_refl _)))
      (fun s' U h => HB.out.trans (h.2.mono hBV)) ⟨fun y h => (by cases h), Below.refl _ _⟩ ?round2 ?done2 ?stop2
    case round2 =>
      rintro s' y U hp' ⟨r3, hr3⟩ ⟨hall, hB2⟩
      have hy : y ∈ zs := hp'.subset (by simp)
      gi_wp2
      refine ⟨KeepsFrom.refl _ _, fun U' hg' _ _ => ?_⟩
      have hB3 : Below V.heap.size V U' := hB2.grown hg' hB2.size (fun k e => by cases e; exact Nat.le_refl _)
      have cF' := (hB3.cell (p := ⟨w.heap.size + 1, 0, none⟩) hlF).trans cF
      have cX' := (hB3.cell (p := ⟨W.heap.size, 0, none⟩) hlX).trans cX
      have HAL := hide hall
      clear hg' hr3 hB2 cF cX hall hr2 bX bF hp hp' HI
      have HX : ∀ {r : Bool}, b y x = r → Calls Tryz.prog 139 #[.agg #[.int .i64 n, .slice a zs.length cap, .slice l m capl, .int .i64 C, .int .i64 B], .int .i64 y, .int .i64 x] U' fun e w'' => e = .returned (.bool r) ∧ Below U'.heap.size U' w'' := fun e => by rw [← e]; exact HF.out y x U' hy hx (HB.out.trans (hB3.mono hBV))
      have HN3 := hide hB3
      clear hB3 HB
      by_cases hb : b y x = true
      · have HBT := hide hb
        gi_wp2
        refine ⟨trivial, (CallsIn.inRound _ (CallsIn.inRound _ (callsIn_wide.2 (HX hb)))).mono ?_⟩
        rintro e U2 ⟨rfl, hb4⟩
        gi_wp2
        exact ⟨keeps_below hb4 _, ⟨rfl, y, hy, HBT.out⟩, bnext HN3.out hb4⟩
      · have hb : b y x = false := by simpa using hb
        have HBT := hide hb
        gi_wp2
        refine ⟨trivial, (CallsIn.inRound _ (CallsIn.inRound _ (callsIn_wide.2 (HX hb)))).mono ?_⟩
        rintro e U2 ⟨rfl, hb4⟩
        gi_wp2
        refine ⟨keeps_below hb4 _, fun z hz => ?_, bnext HN3.out hb4⟩
        rcases List.mem_append.1 hz with h | h
        · exact HAL.out z h
        · obtain rfl : z = y := by simpa using h
          exact HBT.out
    case stop2 =>
      rintro c U ⟨⟨rfl, y, hy, hb⟩, hB2⟩
      obtain ⟨⟨⟨v, bv, ov, _⟩, pA, bF⟩, hB⟩ := HI.out
      have HNO := hide (unbP_no (b := b) ⟨y, hy, hb⟩)
      have HB2 := hide hB2
      clear hB2 bX hr2
      gi_wp2
      refine ⟨keeps_below HB2.out _, ⟨⟨v, (HB2.out.block _ bv.lt).trans bv, ?_, trivial⟩, (HB2.out.block _ (Array.getElem?_eq_some_iff.1 pA).1).trans pA, (HB2.out.block _ bF.lt).trans bF⟩, hB.trans (HB2.out.mono hBV)⟩
      rw [filter_snoc, HNO.out, if_neg (by decide), List.append_nil]
      exact Owns.below ov HB2.out
    case done2 =>
      rintro U ⟨hall, hB2⟩
      obtain ⟨⟨⟨v, bv, ov, _⟩, pA, bF⟩, hB⟩ := HI.out
      have HYES := hide (unbP_yes hall)
      have hv : Boxed U (w.heap.size + 1 + 1) 35 v := (hB2.block _ bv.lt).trans bv
      have hrow : U.ownsRow w.heap.size 3 1 v (s.filter (unbP b zs)).length ((s.filter (unbP b zs)).map (Value.int .i64)) := Owns.below ov hB2
      have HPA : Hid (U.heap[w.heap.size]? = some (.cells #[.int .i64 n, .slice a zs.length cap, .slice l m capl, .int .i64 C, .int .i64 B] 165 (0, 0))) := (hB2.block _ (Array.getElem?_eq_some_iff.1 pA).1).trans pA
      have HBF : Hid (U.heap[w.heap.size + 1]? = some (.cells #[.func (.func 139) #[.agg #[.int .i64 n, .slice a zs.length cap, .slice l m capl, .int .i64 C, .int .i64 B]] #[]] 150 (0, 0))) := (hB2.block _ bF.lt).trans bF
      have cX2 := (hB2.cell (p := ⟨W.heap.size, 0, none⟩) hlX).trans cX
      have cv := hv.cell
      have hfl : (s.filter (unbP b zs)).length ≤ s.length := List.length_filter_le _ _
      have hB' : Below w.heap.size w U := hB.trans (hB2.mono hBV)
      have hUs := hB'.size
      have HB' := hide hB'
      have HB2 := hide hB2
      clear hall hB2 bX bv ov pA bF hB hB' hr2 cX cF HI HU HF hIt2 hp hr hlt
      gi_wp2_with ((gi_at_builtin; refine wpListIn_append_own _ rfl _ _ 35 rfl w.heap.size 3 i0 (.int .i64 0) 1 8 Tryz.underlying35 hi0 hz0 hz1 hz2 rfl (by decide) _ _ _ rfl (hrow.alloc _) ⟨U.heap.size, 0, none⟩ 1 1 [.int .i64 x] rfl rfl (cell_one_new _ _ _) (by simp [Value.oneCell']) (by unfold maxLen; omega) (by omega) (by simp; omega) ?_; intro v' w1 hown' hgrow _; obtain ⟨g', cap', rfl⟩ := ownsRow_succ hown'; obtain ⟨hv1, hv2, hr2, hk2, hb2⟩ := hv.appended (by decide) hrow hUs (by omega) hown' hgrow; have hc1 := hv1.cell; have hf1 := hv1.frozen))
      refine ⟨(keeps_below HB2.out _).trans (hk2.from _), ⟨⟨_, hv2, ?_, trivial⟩, block_past HPA.out (by decide) hrow hgrow (by omega), block_past HBF.out (by decide) hrow hgrow (by omega)⟩, HB'.out.trans hb2⟩
      rw [filter_snoc, HYES.out, if_pos rfl, List.length_append, List.map_append]
      exact hr2
end Go.Proofs.YtgebplpbnaeckaaGreatDoor

/- BstM: bestBy by keepsMore, and SlaterRule of the program. -/
namespace Go.Proofs.YtgebplpbnaeckaaGreatDoor
open Go.RowKit Go.Joins

set_option maxRecDepth 100000 in
set_option maxHeartbeats 4000000 in
theorem bestByM_any (n : Int) (a l : Option Addr) (cap capl : Nat) (zs vs : List Int) (w : World) (hi : Ints w a zs) (hj : Ints w l vs) (hn : zs.length ≤ 1048576) (hm : vs.length ≤ 1048576) :
    Calls Tryz.prog 110 #[.int .i64 3, .agg #[.int .i64 n, .slice a zs.length cap], .slice l vs.length capl] w (Gives (bestM n zs vs) w) := by
  have S0 := SV.new w n a zs cap l vs 37 hi hj
  clear hi hj
  by_cases hv : vvB n zs vs = false
  · have HN := hide (bestM_no hv)
    have HV := hide hv
    clear hv
    obtain ⟨⟨_, c0, c1⟩, _⟩ := S0.pair
    go_enter Tryz.func110, Tryz.ntmps110
    go_wp2_with fail
    refine (implVotes_is _ _ _ _ _ _ _ _ false S0.2.1 S0.2.2.1 hn hm HV.out).mono ?_
    rintro e w1 ⟨rfl, hb⟩
    go_wp2
    go_ret
    exact gives_nil HN.out (S0.below hb).2.2.2
  · have hv : vvB n zs vs = true := by simpa using hv
    have hV := vv_of hv
    obtain ⟨m, rfl⟩ := Int.eq_ofNat_of_zero_le (show 0 ≤ n from by have := hV.1.1; omega)
    have h4 : m ≤ 4 := by have := hV.1.1; omega
    have h5 : vs.length ≤ 5 := by have := hV.2.2; omega
    have HZ := hide (valid_range hV.1)
    have HR := hide (votes_range hV.1 hV.2)
    have HN := hide (show bestM (m : Int) zs vs = unbL (fun y x => moreB (wantC vs m) (wantB vs m) y x) zs from bestM_yes hv)
    have HV := hide hv
    have HC := hide (wpC_yes hv)
    have HB := hide (wpB_yes hv)
    have H16 := hide (want_16 vs m h4)
    clear hv hV
    obtain ⟨⟨_, c0, c1⟩, _⟩ := S0.pair
    go_enter Tryz.func110, Tryz.ntmps110
    go_wp2_with fail
    refine (implVotes_is _ _ _ _ _ _ _ _ true S0.2.1 S0.2.2.1 hn hm HV.out).mono ?_
    rintro e w1 ⟨rfl, hb⟩
    have S1 := S0.below hb
    clear S0 hb c0 c1
    obtain ⟨⟨_, c0, c1⟩, _⟩ := S1.pair
    go_wp2_with fail
    go_cut [7] (fun v wx => ∃ g : Nat, v = .pointer (some ⟨g, 0, none⟩) ∧ w1.heap.size ≤ g ∧ wx.heap[g]? = some (.cells #[.int .i64 m, .slice a zs.length cap, .slice l vs.length capl, .int .i64 (wantC vs m : Nat), .int .i64 (wantB vs m : Nat)] 165 (0, 0)) ∧ Below w1.heap.size w1 wx)
    case first =>
      refine wp_region_held_drew (S := (fun w' => w'.cell? ⟨w.heap.size, 0, none⟩ = some (.int .i64 m) ∧ w'.cell? ⟨w.heap.size, 1, none⟩ = some (.slice a zs.length cap))) (by kernel_rfl) ?_ (fun hHeld => ?_)
      · exact ⟨c0, c1⟩
      refine wpAnyH_take (i := 0) (v := ?vvt1) rfl (by kernel_rfl) (by kernel_rfl) (by kernel_rfl) (fun _ _ _ h => h) (Or.inl ⟨by rfl, ?hyt1⟩) (by assumption) ?restt1
      case hyt1 => (intro w hSw; (try dsimp only at hSw); go_simp; (try with_reducible rfl))
      case restt1 =>
        (try simp only [Act.put, List.setIfInBounds_toArray, List.set_cons_zero, List.set_cons_succ, List.getElem_toArray, List.getElem_cons_zero])
        refine wpAnyH_take (i := 1) (v := ?vvt2) rfl (by kernel_rfl) (by kernel_rfl) (by kernel_rfl) (fun _ _ _ h => h) (Or.inl ⟨by rfl, ?hyt2⟩) (by assumption) ?restt2
        case hyt2 => (intro w hSw; (try dsimp only at hSw); go_simp; (try with_reducible rfl))
        case restt2 =>
          (try simp only [Act.put, List.setIfInBounds_toArray, List.set_cons_zero, List.set_cons_succ, List.getElem_toArray, List.getElem_cons_zero, List.getElem_cons_succ])
          refine wpAnyH_take (i := 2) (v := ?vvt3) rfl (by kernel_rfl) (by kernel_rfl) (by kernel_rfl) (fun _ _ _ h => h) (Or.inl ⟨by rfl, ?hyt3⟩) (by assumption) ?restt3
          case hyt3 => (intro w hSw; (try dsimp only at hSw); go_simp; (try with_reducible rfl))
          case restt3 =>
            (try simp only [Act.put, List.setIfInBounds_toArray, List.set_cons_zero, List.set_cons_succ, List.getElem_toArray, List.getElem_cons_zero, List.getElem_cons_succ])
            refine wpAnyH_take (i := 3) (v := ?vvt4) rfl (by kernel_rfl) (by kernel_rfl) (by kernel_rfl) (fun _ _ _ h => h) (Or.inl ⟨by rfl, ?hyt4⟩) (by assumption) ?restt4
            case hyt4 => (intro w hSw; (try dsimp only at hSw); go_simp; (try with_reducible rfl))
            case restt4 =>
              (try simp only [Act.put, List.setIfInBounds_toArray, List.set_cons_zero, List.set_cons_succ, List.getElem_toArray, List.getElem_cons_zero, List.getElem_cons_succ])
              refine wpAnyH_ready (rs := [4, 6]) (by kernel_rfl) (by simp) ?_
              refine (AllReadyH.cons rfl (fun K hK => ?_) (AllReadyH.cons rfl (fun K hK => ?_) AllReadyH.nil))
              · go_simp
                (go_at_call 108; refine (implWanted_any _ _ _ _ _ _ _ _ (S1.drew).2.1 (S1.drew).2.2.1 hn hm).mono ?_)
                rintro e w2 ⟨rfl, hb2⟩
                have S2 := S1.drew.below hb2
                have B2 := hide (bdrew hb2)
                rw [HC.out, HB.out, Int.toNat_natCast]
                go_wp2_with fail
                refine hK.out _ _ ?_ (fun hHeld => ?_)
                · exact S2.1.2
                clear hK K
                (try simp only [Act.put, List.setIfInBounds_toArray, List.set_cons_zero, List.set_cons_succ, List.getElem_toArray, List.getElem_cons_zero, List.getElem_cons_succ])
                refine wpAnyH_take (i := 5) (v := ?vvt5) rfl (by kernel_rfl) (by kernel_rfl) (by kernel_rfl) (fun _ _ _ h => h) (Or.inl ⟨by rfl, ?hyt5⟩) (by assumption) ?restt5
                case hyt5 => (intro w hSw; (try dsimp only at hSw); go_simp; (try with_reducible rfl))
                case restt5 =>
                  (try simp only [Act.put, List.setIfInBounds_toArray, List.set_cons_zero, List.set_cons_succ, List.getElem_toArray, List.getElem_cons_zero, List.getElem_cons_succ])
                  refine wpAnyH_ready (rs := [6]) (by kernel_rfl) (by simp) ?_
                  refine (AllReadyH.cons rfl (fun K hK => ?_) AllReadyH.nil)
                  go_simp
                  refine hK.out _ _ ?_ (fun hHeld => ?_)
                  · exact (S2.below (bel1 w2 (.cells #[.int .i64 0, .slice none 0 0, .slice none 0 0, .int .i64 0, .int .i64 0] 165))).1.2
                  clear hK K
                  (try simp only [Act.put, List.setIfInBounds_toArray, List.set_cons_zero, List.set_cons_succ, List.getElem_toArray, List.getElem_cons_zero, List.getElem_cons_succ])
                  refine wpAnyH_ready (rs := [7]) (by kernel_rfl) (by simp) ?_
                  refine (AllReadyH.cons rfl (fun K hK => ?_) AllReadyH.nil)
                  go_simp
                  have SA := S2.below (bel1 w2 (.cells #[.int .i64 m, .slice a zs.length cap, .slice l vs.length capl, .int .i64 (wantC vs m : Nat), .int .i64 (wantB vs m : Nat)] 165))
                  refine hK.out _ _ ?_ (fun hHeld => ?_)
                  · exact SA.1.2
                  clear hK K
                  (try simp only [Act.put, List.setIfInBounds_toArray, List.set_cons_zero, List.set_cons_succ, List.getElem_toArray, List.getElem_cons_zero, List.getElem_cons_succ])
                  refine wpAnyH_done (by kernel_rfl) ?_ _
                  go_wp2_with fail
                  go_meet
                  exact ⟨_, rfl, B2.out.size, heap_alloc_new w2 _, bnext B2.out (bel1 w2 _)⟩
              · go_simp
                have S2 := S1.below (bdrew' (bel1 w1 (.cells #[.int .i64 0, .slice none 0 0, .slice none 0 0, .int .i64 0, .int .i64 0] 165)))
                refine hK.out _ _ ?_ (fun hHeld => ?_)
                · exact S2.1.2
                clear hK K
                (try simp only [Act.put, List.setIfInBounds_toArray, List.set_cons_zero, List.set_cons_succ, List.getElem_toArray, List.getElem_cons_zero, List.getElem_cons_succ])
                refine wpAnyH_ready (rs := [4]) (by kernel_rfl) (by simp) ?_
                refine (AllReadyH.cons rfl (fun K hK => ?_) AllReadyH.nil)
                go_simp
                (go_at_call 108; refine (implWanted_any _ _ _ _ _ _ _ _ (S2).2.1 (S2).2.2.1 hn hm).mono ?_)
                rintro e w2 ⟨rfl, hb2⟩
                have S3 := S2.below hb2
                have hg2 : w2.heap[w1.heap.size]? = some (.cells #[.int .i64 0, .slice none 0 0, .slice none 0 0, .int .i64 0, .int .i64 0] 165 (0, 0)) := (hb2.block _ (by simp)).trans (heap_alloc_new w1 (.cells #[.int .i64 0, .slice none 0 0, .slice none 0 0, .int .i64 0, .int .i64 0] 165))
                have f0 := unfrozen_of_block hg2 0
                have f1 := unfrozen_of_block hg2 1
                have f2 := unfrozen_of_block hg2 2
                have f3 := unfrozen_of_block hg2 3
                have f4 := unfrozen_of_block hg2 4
                have r0 := cell_of_block hg2 0
                have r1 := cell_of_block hg2 1
                have r2 := cell_of_block hg2 2
                have r3 := cell_of_block hg2 3
                have r4 := cell_of_block hg2 4
                have B2 := hide (bnext (bdrew' (bel1 w1 (.cells #[.int .i64 0, .slice none 0 0, .slice none 0 0, .int .i64 0, .int .i64 0] 165))) hb2)
                rw [HC.out, HB.out, Int.toNat_natCast]
                go_wp2_with fail
                refine hK.out _ _ ?_ (fun hHeld => ?_)
                · exact S3.1.2
                clear hK K
                (try simp only [Act.put, List.setIfInBounds_toArray, List.set_cons_zero, List.set_cons_succ, List.getElem_toArray, List.getElem_cons_zero, List.getElem_cons_succ])
                refine wpAnyH_take (i := 5) (v := ?vvt6) rfl (by kernel_rfl) (by kernel_rfl) (by kernel_rfl) (fun _ _ _ h => h) (Or.inl ⟨by rfl, ?hyt6⟩) (by assumption) ?restt6
                case hyt6 => (intro w hSw; (try dsimp only at hSw); go_simp; (try with_reducible rfl))
                case restt6 =>
                  (try simp only [Act.put, List.setIfInBounds_toArray, List.set_cons_zero, List.set_cons_succ, List.getElem_toArray, List.getElem_cons_zero, List.getElem_cons_succ])
                  refine wpAnyH_ready (rs := [7]) (by kernel_rfl) (by simp) ?_
                  refine (AllReadyH.cons rfl (fun K hK => ?_) AllReadyH.nil)
                  go_simp
                  have BB := (((((B2.out.setCell (p := ⟨w1.heap.size, 0, none⟩) (Nat.le_refl _) (.int .i64 m)).setCell (p := ⟨w1.heap.size, 1, none⟩) (Nat.le_refl _) (.slice a zs.length cap)).setCell (p := ⟨w1.heap.size, 2, none⟩) (Nat.le_refl _) (.slice l vs.length capl)).setCell (p := ⟨w1.heap.size, 3, none⟩) (Nat.le_refl _) (.int .i64 (wantC vs m : Nat))).setCell (p := ⟨w1.heap.size, 4, none⟩) (Nat.le_refl _) (.int .i64 (wantB vs m : Nat)))
                  have SB := S1.below BB
                  refine hK.out _ _ ?_ (fun hHeld => ?_)
                  · exact SB.1.2
                  clear hK K
                  (try simp only [Act.put, List.setIfInBounds_toArray, List.set_cons_zero, List.set_cons_succ, List.getElem_toArray, List.getElem_cons_zero, List.getElem_cons_succ])
                  refine wpAnyH_done (by kernel_rfl) ?_ _
                  go_wp2_with fail
                  go_meet
                  exact ⟨_, rfl, Nat.le_refl _, block_setCell (i := 4) (block_setCell (i := 3) (block_setCell (i := 2) (block_setCell (i := 1) (block_setCell (i := 0) hg2 _) _) _) _) _, BB⟩
    case rest =>
      obtain ⟨g, rfl, hg1, hgb, BG⟩ := hcut
      have q0 := cell_of_block hgb 0
      have q1 := cell_of_block hgb 1
      have q2 := cell_of_block hgb 2
      have q3 := cell_of_block hgb 3
      have q4 := cell_of_block hgb 4
      have S2 := S1.below BG
      clear S1 c0 c1
      have hgf := heap_alloc_new wc (.cells #[.nilFunc, .nilFunc, .nilFunc, .nilFunc] 166)
      have s0 := cell_of_block hgf 0
      have s1 := cell_of_block hgf 1
      have s2 := cell_of_block hgf 2
      have s3 := cell_of_block hgf 3
      have f0 := unfrozen_of_block hgf 0
      have f1 := unfrozen_of_block hgf 1
      have f2 := unfrozen_of_block hgf 2
      have f3 := unfrozen_of_block hgf 3
      go_wp2_with fail
      obtain ⟨wd, hwd⟩ : ∃ wd : World, wc.alloc (.cells #[.func (.func 136) #[.agg #[.int .i64 m, .slice a zs.length cap, .slice l vs.length capl, .int .i64 (wantC vs m : Nat), .int .i64 (wantB vs m : Nat)]] #[], .func (.func 137) #[.agg #[.int .i64 m, .slice a zs.length cap, .slice l vs.length capl, .int .i64 (wantC vs m : Nat), .int .i64 (wantB vs m : Nat)]] #[], .func (.func 138) #[.agg #[.int .i64 m, .slice a zs.length cap, .slice l vs.length capl, .int .i64 (wantC vs m : Nat), .int .i64 (wantB vs m : Nat)]] #[], .func (.func 139) #[.agg #[.int .i64 m, .slice a zs.length cap, .slice l vs.length capl, .int .i64 (wantC vs m : Nat), .int .i64 (wantB vs m : Nat)]] #[]] 166) = wd := ⟨_, rfl⟩
      have BD : Below wc.heap.size wc wd := by rw [← hwd]; exact bel1 _ _
      have hgd : wd.heap[wc.heap.size]? = some (.cells #[.func (.func 136) #[.agg #[.int .i64 m, .slice a zs.length cap, .slice l vs.length capl, .int .i64 (wantC vs m : Nat), .int .i64 (wantB vs m : Nat)]] #[], .func (.func 137) #[.agg #[.int .i64 m, .slice a zs.length cap, .slice l vs.length capl, .int .i64 (wantC vs m : Nat), .int .i64 (wantB vs m : Nat)]] #[], .func (.func 138) #[.agg #[.int .i64 m, .slice a zs.length cap, .slice l vs.length capl, .int .i64 (wantC vs m : Nat), .int .i64 (wantB vs m : Nat)]] #[], .func (.func 139) #[.agg #[.int .i64 m, .slice a zs.length cap, .slice l vs.length capl, .int .i64 (wantC vs m : Nat), .int .i64 (wantB vs m : Nat)]] #[]] 166 (0, 0)) := by rw [← hwd]; exact heap_alloc_new wc _
      rw [hwd]
      clear hwd s0 s1 s2 s3 f0 f1 f2 f3 hgf
      have hgg := lt_of_block hgb
      have S3 := S2.below (bdrew' BD)
      have q0 := (BD.cell (p := ⟨g, 0, none⟩) hgg).trans q0
      have q1 := (BD.cell (p := ⟨g, 1, none⟩) hgg).trans q1
      have q2 := (BD.cell (p := ⟨g, 2, none⟩) hgg).trans q2
      have q3 := (BD.cell (p := ⟨g, 3, none⟩) hgg).trans q3
      have q4 := (BD.cell (p := ⟨g, 4, none⟩) hgg).trans q4
      have qk := cell_of_block hgd 3
      have hlg := lt_of_block hgd
      have hgg2 : g < wd.heap.size := Nat.lt_of_lt_of_le hgg BD.size
      have hW := S3.2.2.2
      have hIZ := S3.2.1
      have hIV := hide S3.2.2.1
      clear S2 S3 BD hgd hgb
      refine wp_region_held_drew (S := (fun w' => w'.cell? ⟨g, 0, none⟩ = some (.int .i64 m) ∧ w'.cell? ⟨g, 1, none⟩ = some (.slice a zs.length cap) ∧ w'.cell? ⟨g, 2, none⟩ = some (.slice l vs.length capl) ∧ w'.cell? ⟨g, 3, none⟩ = some (.int .i64 (wantC vs m : Nat)) ∧ w'.cell? ⟨g, 4, none⟩ = some (.int .i64 (wantB vs m : Nat)) ∧ w'.cell? ⟨wc.heap.size, 3, none⟩ = some (.func (.func 139) #[.agg #[.int .i64 m, .slice a zs.length cap, .slice l vs.length capl, .int .i64 (wantC vs m : Nat), .int .i64 (wantB vs m : Nat)]] #[]))) (by kernel_rfl) ?_ (fun hHeld => ?_)
      · exact ⟨q0, q1, q2, q3, q4, qk⟩
      refine wpAnyH_take (i := 0) (v := ?vvt22) rfl (by kernel_rfl) (by kernel_rfl) (by kernel_rfl) (fun _ _ _ h => h) (Or.inl ⟨by rfl, ?hyt22⟩) (by assumption) ?restt22
      case hyt22 => (intro w hSw; (try dsimp only at hSw); go_simp; (try with_reducible rfl))
      case restt22 =>
        (try simp only [Act.put, List.setIfInBounds_toArray, List.set_cons_zero, List.set_cons_succ, List.getElem_toArray, List.getElem_cons_zero])
        refine wpAnyH_take (i := 1) (v := ?vvt23) rfl (by kernel_rfl) (by kernel_rfl) (by kernel_rfl) (fun _ _ _ h => h) (Or.inl ⟨by rfl, ?hyt23⟩) (by assumption) ?restt23
        case hyt23 => (intro w hSw; (try dsimp only at hSw); go_simp; (try with_reducible rfl))
        case restt23 =>
          (try simp only [Act.put, List.setIfInBounds_toArray, List.set_cons_zero, List.set_cons_succ, List.getElem_toArray, List.getElem_cons_zero, List.getElem_cons_succ])
          refine wpAnyH_take (i := 2) (v := ?vvt24) rfl (by kernel_rfl) (by kernel_rfl) (by kernel_rfl) (fun _ _ _ h => h) (Or.inl ⟨by rfl, ?hyt24⟩) (by assumption) ?restt24
          case hyt24 => (intro w hSw; (try dsimp only at hSw); go_simp; (try with_reducible rfl))
          case restt24 =>
            (try simp only [Act.put, List.setIfInBounds_toArray, List.set_cons_zero, List.set_cons_succ, List.getElem_toArray, List.getElem_cons_zero, List.getElem_cons_succ])
            refine wpAnyH_take (i := 3) (v := ?vvt25) rfl (by kernel_rfl) (by kernel_rfl) (by kernel_rfl) (fun _ _ _ h => h) (Or.inl ⟨by rfl, ?hyt25⟩) (by assumption) ?restt25
            case hyt25 => (intro w hSw; (try dsimp only at hSw); go_simp; (try with_reducible rfl))
            case restt25 =>
              (try simp only [Act.put, List.setIfInBounds_toArray, List.set_cons_zero, List.set_cons_succ, List.getElem_toArray, List.getElem_cons_zero, List.getElem_cons_succ])
              refine wpAnyH_ready (rs := [4]) (by kernel_rfl) (by simp) ?_
              refine (AllReadyH.cons rfl (fun K hK => ?_) AllReadyH.nil)
              go_simp
              (go_at_call 140; refine (unbeatenM_any (fun y x => moreB (wantC vs m) (wantB vs m) y x) m a l cap capl vs.length zs (wantC vs m : Nat) (wantB vs m : Nat) _ hIZ hn (fun y x w' hy hx hb => keepsMore_any m a l zs.length cap vs.length capl (wantC vs m) (wantB vs m) y x w' H16.out.1 H16.out.2 (HZ.out y hy) (HZ.out x hx))).mono ?_)
              rintro e w3 ⟨v, rfl, ov, hb3⟩
              obtain ⟨av, cv, rfl, _, _⟩ := ov.form
              have hb3' := bdrew hb3
              have OV := hide ov
              clear ov hIZ
              have p0 := (hb3'.cell (p := ⟨g, 0, none⟩) hgg2).trans q0
              have p1 := (hb3'.cell (p := ⟨g, 1, none⟩) hgg2).trans q1
              have p2 := (hb3'.cell (p := ⟨g, 2, none⟩) hgg2).trans q2
              have p3 := (hb3'.cell (p := ⟨g, 3, none⟩) hgg2).trans q3
              have p4 := (hb3'.cell (p := ⟨g, 4, none⟩) hgg2).trans q4
              have pk := (hb3'.cell (p := ⟨wc.heap.size, 3, none⟩) hlg).trans qk
              go_wp2_with fail
              refine hK.out _ _ ?_ (fun hHeld => ?_)
              · exact ⟨p0, p1, p2, p3, p4, pk⟩
              clear hK K
              (try simp only [Act.put, List.setIfInBounds_toArray, List.set_cons_zero, List.set_cons_succ, List.getElem_toArray, List.getElem_cons_zero, List.getElem_cons_succ])
              refine wpAnyH_take (i := 5) (v := ?vvt26) rfl (by kernel_rfl) (by kernel_rfl) (by kernel_rfl) (fun _ _ _ h => h) (Or.inl ⟨by rfl, ?hyt26⟩) (by assumption) ?restt26
              case hyt26 => (intro w hSw; (try dsimp only at hSw); go_simp; (try with_reducible rfl))
              case restt26 =>
                (try simp only [Act.put, List.setIfInBounds_toArray, List.set_cons_zero, List.set_cons_succ, List.getElem_toArray, List.getElem_cons_zero, List.getElem_cons_succ])
                refine wpAnyH_done (by kernel_rfl) ?_ _
                go_wp2_with fail
                go_ret
                exact ⟨_, rfl, by rw [HN.out]; exact OV.out.le hW.size, bnext hW hb3⟩

theorem implSlaterRule_any (n : Int) (a l : Option Addr) (cap capl : Nat) (zs vs : List Int) (w : World) (hi : Ints w a zs) (hj : Ints w l vs) (hn : zs.length ≤ 1048576) (hm : vs.length ≤ 1048576) :
    Calls Tryz.prog 87 #[.agg #[.int .i64 n, .slice a zs.length cap], .slice l vs.length capl] w (Gives (bestM n zs vs) w) := by
  have S0 := SV.new w n a zs cap l vs 37 hi hj
  obtain ⟨⟨_, c0, c1⟩, _⟩ := S0.pair
  clear hi hj
  go_enter Tryz.func87, Tryz.ntmps87
  go_wp2_with fail
  refine (bestByM_any _ _ _ _ _ _ _ _ S0.2.1 S0.2.2.1 hn hm).mono ?_
  rintro e w1 ⟨v, rfl, ov, hb⟩
  go_wp2
  go_ret
  exact ⟨_, rfl, ov.le S0.2.2.2.size, bnext S0.2.2.2 hb⟩
end Go.Proofs.YtgebplpbnaeckaaGreatDoor

/- TurnI: TurnRule of the program. -/
namespace Go.Proofs.YtgebplpbnaeckaaGreatDoor
open Go.RowKit Go.Joins

theorem isOrder_is (n : Int) (a : Option Addr) (cap : Nat) (ls : List Int) (w : World) (r : Bool) (hi : Ints w a ls) (h1 : 1 ≤ n) (h4 : n ≤ 4) (hm : ls.length ≤ 1048576) (hr : ordB n ls = r) :
    Calls Tryz.prog 141 #[.int .i64 n, .slice a ls.length cap] w fun e w' => e = .returned (.bool r) ∧ Below w.heap.size w w' := by
  subst hr
  exact isOrder_any n a cap ls w hi h1 h4 hm
theorem asks_is (n c b : Int) (a : Option Addr) (cap g : Nat) (zs : List Int) (w : World) (r : Bool) (hi : Ints w a zs) (hn : zs.length ≤ 1048576) (bx : Box w g n a zs.length cap) (hr : ∀ x ∈ zs, 0 ≤ x ∧ x ≤ 15) (hc : 0 ≤ c ∧ c ≤ 15) (hb : 0 ≤ b) (h : openB zs c b = r) :
    Calls Tryz.prog 123 #[.agg #[.int .i64 c, .int .i64 b], .pointer (some ⟨g, 0, none⟩)] w fun e w' => e = .returned (.bool r) ∧ Below w.heap.size w w' := by
  subst h
  exact openAsker1_any n c b a cap g zs w hi hn bx hr hc hb

set_option maxHeartbeats 8000000 in
set_option maxRecDepth 100000 in
theorem implTurnRule_any (n : Int) (a l q : Option Addr) (cap capl capq : Nat) (zs vs ls : List Int) (w : World) (hi : Ints w a zs) (hj : Ints w l vs) (hq : Ints w q ls) (hn : zs.length ≤ 1048576) (hm : vs.length ≤ 1048576) (ho : ls.length ≤ 1048576) :
    Calls Tryz.prog 111 #[.agg #[.int .i64 n, .slice a zs.length cap], .slice l vs.length capl, .slice q ls.length capq] w fun e w' => e = .returned (.int .i64 (turnV n zs vs ls)) ∧ Below w.heap.size w w' := by
  have S0 := SV.new w n a zs cap l vs 37 hi hj
  have q0 := hq.below (bel1 w (.cells #[.int .i64 n, .slice a zs.length cap] 37))
  clear hi hj hq
  by_cases hv : vvB n zs vs = false
  · have HN := hide (turnV_no1 (ls := ls) hv)
    have HV := hide hv
    clear hv
    obtain ⟨⟨_, c0, c1⟩, _⟩ := S0.pair
    go_enter Tryz.func111, Tryz.ntmps111
    go_wp2_with fail
    refine (votes_was _ _ _ _ _ _ _ _ false S0.2.1 S0.2.2.1 hn hm HV.out).mono ?_
    rintro e w1 ⟨rfl, hb⟩
    go_wp2
    go_ret
    exact ⟨ret_int HN.out.symm, (S0.below hb).2.2.2⟩
  · have hv : vvB n zs vs = true := by simpa using hv
    have hV := vv_of hv
    obtain ⟨m, rfl⟩ := Int.eq_ofNat_of_zero_le (show 0 ≤ n from by have := hV.1.1; omega)
    have h4 : m ≤ 4 := by have := hV.1.1; omega
    have h1 : 1 ≤ (m : Int) := hV.1.1.1
    have HZ := hide (valid_range hV.1)
    have HV := hide hv
    by_cases hod : ordB (m : Int) ls = false
    · have HN := hide (turnV_no2 (zs := zs) (vs := vs) hod)
      have HO := hide hod
      clear hv hV hod
      obtain ⟨⟨_, c0, c1⟩, _⟩ := S0.pair
      go_enter Tryz.func111, Tryz.ntmps111
      go_wp2_with fail
      refine (votes_was _ _ _ _ _ _ _ _ true S0.2.1 S0.2.2.1 hn hm HV.out).mono ?_
      rintro e w1 ⟨rfl, hb⟩
      have S1 := S0.below hb
      have q1 := q0.below hb
      clear S0 hb c0 c1
      obtain ⟨⟨_, c0, c1⟩, _⟩ := S1.pair
      go_wp2_with fail
      refine (isOrder_is _ _ _ _ _ false q1 h1 (by omega) ho HO.out).mono ?_
      rintro e w2 ⟨rfl, hb⟩
      go_wp2
      go_ret
      exact ⟨ret_int HN.out.symm, (S1.below hb).2.2.2⟩
    · have hod : ordB (m : Int) ls = true := by simpa using hod
      have HN := hide (turnV_yes hv hod)
      have HO := hide hod
      have HOK := hide (ord_of hod)
      have HMJ := hide (majV_yes hv)
      have hM := wantB_lt vs m
      have hM16 : wantB vs m < 16 := Nat.lt_of_lt_of_le hM (Nat.pow_le_pow_right (n := 2) (by omega) h4)
      clear hv hV hod hM
      obtain ⟨⟨_, c0, c1⟩, _⟩ := S0.pair
      go_enter Tryz.func111, Tryz.ntmps111
      go_wp2_with fail
      refine (votes_was _ _ _ _ _ _ _ _ true S0.2.1 S0.2.2.1 hn hm HV.out).mono ?_
      rintro e w1 ⟨rfl, hb⟩
      have S1 := S0.below hb
      have q1 := q0.below hb
      clear S0 hb c0 c1
      obtain ⟨⟨_, c0, c1⟩, _⟩ := S1.pair
      go_wp2_with fail
      refine (isOrder_is _ _ _ _ _ true q1 h1 (by omega) ho HO.out).mono ?_
      rintro e w2 ⟨rfl, hb⟩
      have S2 := S1.below hb
      have q2 := q1.below hb
      clear S1 hb c0 c1 q1
      obtain ⟨⟨_, c0, c1⟩, _⟩ := S2.pair
      go_wp2_with fail
      refine (implMajorityOf_any _ _ _ _ _ _ _ _ S2.2.1 S2.2.2.1 hn hm).mono ?_
      rintro e w3 ⟨rfl, hb⟩
      rw [HMJ.out, Int.toNat_natCast]
      have S3 := S2.below hb
      have q3 := q2.below hb
      clear S2 hb c0 c1 q2
      obtain ⟨⟨_, c0, c1⟩, _⟩ := S3.pair
      go_wp2_with fail
      refine (openAsker_any _ _ _ _ _).mono ?_
      rintro e w4 ⟨rfl, hw4⟩
      have bxo := Box.new w3 m a zs.length cap 37
      have S4 := S3.below (bel1 w3 (.cells #[.int .i64 m, .slice a zs.length cap] 37))
      have q4 := q3.below (bel1 w3 (.cells #[.int .i64 m, .slice a zs.length cap] 37))
      obtain ⟨gs, hgs⟩ : ∃ gs : Nat, w3.heap.size = gs := ⟨_, rfl⟩
      rw [← hw4] at bxo S4 q4
      rw [hgs] at bxo ⊢
      have hblk0 := heap_alloc_new w4 (.cells #[.int .i64 0, .int .i64 0] 79)
      have BA := bel1 w4 (.cells #[.int .i64 0, .int .i64 0] 79)
      clear S3 c0 c1 q3 hw4 hgs
      go_wp2
      go_loopw [30] (fun i wr => ∃ k : Nat, k ≤ ls.length ∧ i = .int .i64 k ∧ wr.heap[w4.heap.size]? = some (.cells #[.int .i64 ((turnK zs vs ls k).1 : Nat), .int .i64 ((turnK zs vs ls k).2 : Nat)] 79 (0, 0)) ∧ Below w4.heap.size w4 wr) (fun i _ => ls.length - (intOf i).toNat)
      case atStart => exact ⟨0, Nat.zero_le _, rfl, hblk0, BA⟩
      case round =>
        clear hblk0 BA
        obtain ⟨k, hk, rfl, hblk, BR⟩ := hrel
        by_cases hlt : k < ls.length
        · obtain ⟨j, hj, hj4, hjm, hst, hC, hB, o1, o1', o2, o2'⟩ := tstep (zs := zs) (vs := vs) HOK.out (by omega) hlt
          obtain ⟨bq, oq, rfl, hbq, hcq⟩ := (q4.below BR) (by omega)
          have hck := hcq k hlt
          rw [getD_lt hlt, hj] at hck
          have hma := maj_and (vs := vs) (m := m) (j := j) h4 (by omega)
          obtain ⟨p, hp⟩ : ∃ p : Nat × Nat, turnK zs vs ls k = p := ⟨_, rfl⟩
          obtain ⟨C, B⟩ := p
          rw [hp] at hblk hst hC hB o1 o1' o2 o2'
          simp only at hblk hC hB o1 o1' o2 o2'
          have hpj : 2 ^ j < 16 := Nat.lt_of_lt_of_le (Nat.pow_lt_pow_right (by omega) hj4) (by decide)
          obtain ⟨Q, hQ⟩ : ∃ Q : Nat, (if vs.length < 2 * supN vs j then 2 ^ j else 0) = Q := ⟨_, rfl⟩
          have hQv : (Q = 0 ∨ Q = 2 ^ j) := by rw [← hQ]; split <;> simp
          have hoB : B ||| Q = B + Q ∧ B + Q < 16 ∧ Q < 16 := by
            rcases hQv with e | e
            · rw [e]; simp; omega
            · rw [e]; exact ⟨o2, o2', hpj⟩
          have hw2 := wrap_pow2 j (by omega)
          have e1 : bits .or .i64 (C : Int) (2 ^ j) = ((C + 2 ^ j : Nat) : Int) := by rw [← pow_cast, bits_or ⟨C, hC⟩ ⟨2 ^ j, hpj⟩, o1]
          have e2 : bits .and .i64 (wantB vs m : Int) (2 ^ j) = (Q : Int) := by rw [← pow_cast, bits_and ⟨_, hM16⟩ ⟨2 ^ j, hpj⟩, hma, hQ]
          have e3 : bits .or .i64 (B : Int) (Q : Int) = ((B + Q : Nat) : Int) := by rw [bits_or ⟨B, hB⟩ ⟨Q, hoB.2.2⟩, hoB.1]
          have e4 : bits .xor .i64 ((B + Q : Nat) : Int) (2 ^ j) = (((B + Q) ^^^ 2 ^ j : Nat) : Int) := by rw [← pow_cast, bits_xor ⟨B + Q, hoB.2.1⟩ ⟨2 ^ j, hpj⟩]
          have hB1 := hoB.2.1
          have HQ := hide hQ
          have HST := hide hst
          obtain ⟨C1, hC1⟩ : ∃ C1, C + 2 ^ j = C1 := ⟨_, rfl⟩
          obtain ⟨B1, hB1'⟩ : ∃ B1, B + Q = B1 := ⟨_, rfl⟩
          obtain ⟨B2, hB2⟩ : ∃ B2, B1 ^^^ 2 ^ j = B2 := ⟨_, rfl⟩
          rw [hC1] at e1 o1'
          rw [hB1'] at e3 e4 hB1
          rw [hB2] at e4
          have HC1 := hide hC1
          have HB1 := hide hB1'
          have HB2 := hide hB2
          have g0 := cell_of_block hblk 0
          have g1 := cell_of_block hblk 1
          have f0 := unfrozen_of_block hblk 0
          have f1 := unfrozen_of_block hblk 1
          have BH := hide BR
          have HBK := hide hblk
          have HC16 := hide o1'
          clear hcq hst hp hma hQ hQv hoB hC hB o1 o2 o2' hC1 hB1' hB2 hblk BR hj
          by_cases hop : openB zs (C1 : Int) (B1 : Int) = true
          · have HOP := hide hop
            clear hop
            go_wp2
            go_region
            all_goals go_wp2
            all_goals go_region
            all_goals go_wp2_with fail
            all_goals
              have BX := bdrew' ((bdrew' (BH.out.setCell (p := ⟨w4.heap.size, 0, none⟩) (Nat.le_refl _) (.int .i64 (C1 : Int)))).setCell (p := ⟨w4.heap.size, 1, none⟩) (Nat.le_refl _) (.int .i64 (B1 : Int)))
              refine (asks_is _ _ _ _ _ _ _ _ true (S4.below BX).2.1 hn (bxo.below BX) HZ.out (by have := HC16.out; omega) (by omega) HOP.out).mono ?_
              rintro e w8 ⟨rfl, hb8⟩
              have hX := block_setCell (i := 1) (block_setCell (i := 0) HBK.out (.int .i64 (C1 : Int))) (.int .i64 (B1 : Int))
              go_wp2
              go_roundw
              case rel => exact ⟨k + 1, by omega, by go_num, by
                rw [HST.out, stpT_open HQ.out (by rw [HC1.out, HB1.out]; exact HOP.out)]
                simp only [HC1.out, HB1.out]
                exact (hb8.block _ (lt_of_block hX)).trans hX, bnext BX hb8⟩
              case measure => simp [intOf]; omega
          · have hop : openB zs (C1 : Int) (B1 : Int) = false := by simpa using hop
            have HOP := hide hop
            clear hop
            go_wp2
            go_region
            all_goals go_wp2
            all_goals go_region
            all_goals go_wp2_with fail
            all_goals
              have BX := bdrew' ((bdrew' (BH.out.setCell (p := ⟨w4.heap.size, 0, none⟩) (Nat.le_refl _) (.int .i64 (C1 : Int)))).setCell (p := ⟨w4.heap.size, 1, none⟩) (Nat.le_refl _) (.int .i64 (B1 : Int)))
              refine (asks_is _ _ _ _ _ _ _ _ false (S4.below BX).2.1 hn (bxo.below BX) HZ.out (by have := HC16.out; omega) (by omega) HOP.out).mono ?_
              rintro e w8 ⟨rfl, hb8⟩
              have hX := block_setCell (i := 1) (block_setCell (i := 0) HBK.out (.int .i64 (C1 : Int))) (.int .i64 (B1 : Int))
              have hY := (hb8.block _ (lt_of_block hX)).trans hX
              have y1 := cell_of_block hY 1
              have x1 := unfrozen_of_block hY 1
              have BY := bnext BX hb8
              have HY := hide hY
              clear hX hY hb8 BX g0 g1 f0 f1
              go_wp2
              go_region
              all_goals go_wp2
              all_goals
                go_roundw
                case rel => exact ⟨k + 1, by omega, by go_num, by
                  rw [HST.out, stpT_shut HQ.out (by rw [HC1.out, HB1.out]; exact HOP.out)]
                  simp only [HC1.out, HB1.out, HB2.out]
                  exact block_setCell (i := 1) HY.out _, bdrew' (BY.setCell (p := ⟨w4.heap.size, 1, none⟩) (Nat.le_refl _) _)⟩
                case measure => simp [intOf]; omega
        · obtain rfl : k = ls.length := by omega
          have g1 := cell_of_block hblk 1
          have hS := bnext S4.2.2.2 BR
          go_wp2
          go_ret
          exact ⟨ret_int HN.out.symm, hS⟩
end Go.Proofs.YtgebplpbnaeckaaGreatDoor

/- TurnS: TurnRule of the model. -/
namespace Go.Proofs.YtgebplpbnaeckaaGreatDoor
open Go.RowKit Go.Joins

theorem power_was (n r : Int) (w : World) (h0 : 0 ≤ n) (h4 : n ≤ 6) (hr : pw n = r) : Calls Tryz.prog 45 #[.int .i64 n] w fun e w' => e = .returned (.int .i64 r) ∧ w = w' := by
  subst hr
  exact power_any n w h0 h4
theorem opent_was (n c b : Int) (a : Option Addr) (cap : Nat) (zs : List Int) (w : World) (r : Bool) (hi : Ints w a zs) (hn : zs.length ≤ 1048576) (hr : ∀ x ∈ zs, 0 ≤ x ∧ x ≤ 15) (hc : 0 ≤ c ∧ c ≤ 15) (hb : 0 ≤ b) (h : openB zs c b = r) :
    Calls Tryz.prog 60 #[.agg #[.int .i64 n, .slice a zs.length cap], .agg #[.int .i64 c, .int .i64 b]] w fun e w' => e = .returned (.bool r) ∧ Below w.heap.size w w' := by
  subst h
  exact open_any n c b a cap zs w hi hn hr hc hb

set_option maxHeartbeats 8000000 in
set_option maxRecDepth 100000 in
theorem inTurn_any (m : Nat) (a l q : Option Addr) (cap capl capq : Nat) (zs vs ls : List Int) (w : World) (hi : Ints w a zs) (hj : Ints w l vs) (hq : Ints w q ls) (hn : zs.length ≤ 1048576) (h5 : vs.length ≤ 5) (h1 : 1 ≤ m) (h4 : m ≤ 4) (hz : ∀ x ∈ zs, 0 ≤ x ∧ x ≤ 15) (hr : ∀ x ∈ vs, 0 ≤ x ∧ x ≤ 15) (hok : OrdOk (m : Int) ls) :
    Calls Tryz.prog 69 #[.agg #[.int .i64 m, .slice a zs.length cap], .slice l vs.length capl, .slice q ls.length capq] w fun e w' => e = .returned (.int .i64 ((turnK zs vs ls ls.length).2 : Nat)) ∧ Below w.heap.size w w' := by
  have S0 := SV.new w m a zs cap l vs 37 hi hj
  have q0 := hq.below (bel1 w (.cells #[.int .i64 m, .slice a zs.length cap] 37))
  have hlen : ls.length ≤ 4 := by have := hok.1; omega
  have HOK := hide hok
  have HZ := hide hz
  have HR := hide hr
  clear hi hj hq hok hz hr
  obtain ⟨wp, hwp⟩ : ∃ wp, w.alloc (.cells #[.int .i64 m, .slice a zs.length cap] 37) = wp := ⟨_, rfl⟩
  rw [hwp] at S0 q0
  have hblk0 := heap_alloc_new wp (.cells #[.int .i64 0, .int .i64 0] 79)
  have BA := bel1 wp (.cells #[.int .i64 0, .int .i64 0] 79)
  have hws : wp.heap.size = w.heap.size + 1 := by rw [← hwp]; simp
  go_enter Tryz.func69, Tryz.ntmps69
  go_wp2_with fail
  rw [← hws]
  clear hwp hws
  go_loopw [8] (fun i wr => ∃ k : Nat, k ≤ ls.length ∧ i = .int .i64 k ∧ wr.heap[wp.heap.size]? = some (.cells #[.int .i64 ((turnK zs vs ls k).1 : Nat), .int .i64 ((turnK zs vs ls k).2 : Nat)] 79 (0, 0)) ∧ Below wp.heap.size wp wr) (fun i _ => ls.length - (intOf i).toNat)
  case atStart => exact ⟨0, Nat.zero_le _, rfl, hblk0, BA⟩
  case round =>
    clear hblk0 BA
    obtain ⟨k, hk, rfl, hblk, BR⟩ := hrel
    by_cases hlt : k < ls.length
    · obtain ⟨j, hj, hj4, hjm, hst, hC, hB, o1, o1', o2, o2'⟩ := tstep (zs := zs) (vs := vs) HOK.out (by omega) hlt
      obtain ⟨bq, oq, rfl, hbq, hcq⟩ := (q0.below BR) (by omega)
      have hck := hcq k hlt
      rw [getD_lt hlt, hj] at hck
      obtain ⟨p, hp⟩ : ∃ p : Nat × Nat, turnK zs vs ls k = p := ⟨_, rfl⟩
      obtain ⟨C, B⟩ := p
      rw [hp] at hblk hst hC hB o1 o1' o2 o2'
      simp only at hblk hC hB o1 o1' o2 o2'
      obtain ⟨P, hP⟩ : ∃ P : Nat, 2 ^ j = P := ⟨_, rfl⟩
      have hP16 : P < 16 := by rw [← hP]; exact Nat.lt_of_lt_of_le (Nat.pow_lt_pow_right (by omega) hj4) (by decide)
      have HPW : Hid (pw (j : Int) = (P : Int)) := by unfold Hid; rw [pw_nat, ← pow_cast, hP]
      have hx0 : bits .xor .i64 (B : Int) (P : Int) = ((B ^^^ P : Nat) : Int) := bits_xor ⟨B, hB⟩ ⟨P, hP16⟩
      have hx1 : bits .xor .i64 ((B : Int) + (P : Int)) (P : Int) = (((B + P) ^^^ P : Nat) : Int) := by
        rw [← Int.natCast_add]; exact bits_xor ⟨B + P, by rw [hP] at o2'; exact o2'⟩ ⟨P, hP16⟩
      rw [hP] at o1' o2'
      have HP := hide hP
      have HST := hide hst
      have g0 := cell_of_block hblk 0
      have g1 := cell_of_block hblk 1
      have hgl := lt_of_block hblk
      have hs5 := supN_le vs j
      have SR := S0.below BR
      obtain ⟨⟨_, c0, c1⟩, _, il, _⟩ := SR.pair
      have BH := hide BR
      have HBK := hide hblk
      clear hcq hst hp hP o1 o2 hblk BR hj
      by_cases hs : vs.length < 2 * supN vs j
      · have HS := hide hs
        by_cases hop : openB zs ((C : Int) + (P : Int)) ((B : Int) + (P : Int)) = true
        · have HOP := hide hop
          clear hop
          go_wp2_with (first
            | (go_at_call 45; refine (power_was _ _ _ (by omega) (by omega) HPW.out).mono ?_; rintro e w' ⟨rfl, rfl⟩)
            | (go_at_call 64; refine (support_any _ _ _ _ _ (il.below (bel1 wr _)) (by omega) HR.out (by omega)).mono ?_; rintro e w' ⟨rfl, rfl⟩))
          have hX := heap_alloc_new wr (.cells #[.int .i64 ((C : Int) + (P : Int)), .int .i64 ((B : Int) + (P : Int))] 79)
          have bN := bel1 wr (.cells #[.int .i64 ((C : Int) + (P : Int)), .int .i64 ((B : Int) + (P : Int))] 79)
          obtain ⟨wn, hwn⟩ : ∃ wn, wr.alloc (.cells #[.int .i64 ((C : Int) + (P : Int)), .int .i64 ((B : Int) + (P : Int))] 79) = wn := ⟨_, rfl⟩
          rw [hwn] at hX bN ⊢
          obtain ⟨H, hH⟩ : ∃ H, wr.heap.size = H := ⟨_, rfl⟩
          rw [hH] at hX ⊢
          have hGH : wp.heap.size ≠ H := by omega
          have hge : wp.heap.size ≤ H := by omega
          have SN := SR.below bN
          refine (opent_was _ _ _ _ _ _ _ true SN.2.1 hn HZ.out (by omega) (by omega) HOP.out).mono ?_
          rintro e w8 ⟨rfl, hb8⟩
          have hX8 := (hb8.block _ (lt_of_block hX)).trans hX
          have hG8 := (hb8.block _ (Nat.lt_of_lt_of_le hgl bN.size)).trans ((bN.block _ hgl).trans HBK.out)
          have B8 := bnext (bnext BH.out bN) hb8
          have x0 := cell_of_block hX8 0
          have x1 := cell_of_block hX8 1
          have f0 := unfrozen_of_block hG8 0
          have f1 := unfrozen_of_block hG8 1
          have r0 := cell_of_block hG8 0
          have r1 := cell_of_block hG8 1
          have HG8 := hide hG8
          have HB8 := hide B8
          clear hX bN hwn hH SN hb8 hX8 hG8 B8 g0 g1 c0 c1 il
          go_wp2
          go_roundw
          case rel => exact ⟨k + 1, by omega, by go_num, by
            rw [HST.out, stpT_open (q := P) (by rw [if_pos HS.out]; exact HP.out) (by rw [HP.out, Int.natCast_add, Int.natCast_add]; exact HOP.out), HP.out]
            simp only [Int.natCast_add]
            exact block_setCell (i := 1) (block_setCell (i := 0) HG8.out _) _, (HB8.out.setCell (p := ⟨wp.heap.size, 0, none⟩) (Nat.le_refl _) _).setCell (p := ⟨wp.heap.size, 1, none⟩) (Nat.le_refl _) _⟩
          case measure => simp [intOf]; omega
        · have hop : openB zs ((C : Int) + (P : Int)) ((B : Int) + (P : Int)) = false := by simpa using hop
          have HOP := hide hop
          clear hop
          go_wp2_with (first
            | (go_at_call 45; refine (power_was _ _ _ (by omega) (by omega) HPW.out).mono ?_; rintro e w' ⟨rfl, rfl⟩)
            | (go_at_call 64; refine (support_any _ _ _ _ _ (il.below (bel1 wr _)) (by omega) HR.out (by omega)).mono ?_; rintro e w' ⟨rfl, rfl⟩))
          have hX := heap_alloc_new wr (.cells #[.int .i64 ((C : Int) + (P : Int)), .int .i64 ((B : Int) + (P : Int))] 79)
          have bN := bel1 wr (.cells #[.int .i64 ((C : Int) + (P : Int)), .int .i64 ((B : Int) + (P : Int))] 79)
          obtain ⟨wn, hwn⟩ : ∃ wn, wr.alloc (.cells #[.int .i64 ((C : Int) + (P : Int)), .int .i64 ((B : Int) + (P : Int))] 79) = wn := ⟨_, rfl⟩
          rw [hwn] at hX bN ⊢
          obtain ⟨H, hH⟩ : ∃ H, wr.heap.size = H := ⟨_, rfl⟩
          rw [hH] at hX ⊢
          have hGH : wp.heap.size ≠ H := by omega
          have hge : wp.heap.size ≤ H := by omega
          have SN := SR.below bN
          refine (opent_was _ _ _ _ _ _ _ false SN.2.1 hn HZ.out (by omega) (by omega) HOP.out).mono ?_
          rintro e w8 ⟨rfl, hb8⟩
          have hX8 := (hb8.block _ (lt_of_block hX)).trans hX
          have hG8 := (hb8.block _ (Nat.lt_of_lt_of_le hgl bN.size)).trans ((bN.block _ hgl).trans HBK.out)
          have B8 := bnext (bnext BH.out bN) hb8
          have x0 := cell_of_block hX8 0
          have x1 := cell_of_block hX8 1
          have f0 := unfrozen_of_block hG8 0
          have f1 := unfrozen_of_block hG8 1
          have r0 := cell_of_block hG8 0
          have r1 := cell_of_block hG8 1
          have HG8 := hide hG8
          have HB8 := hide B8
          have u0 := unfrozen_of_block hX8 0
          have u1 := unfrozen_of_block hX8 1
          clear hX bN hwn hH SN hb8 hX8 hG8 B8 g0 g1 c0 c1 il
          go_wp2
          go_roundw
          case rel => exact ⟨k + 1, by omega, by go_num, by
            rw [HST.out, stpT_shut (q := P) (by rw [if_pos HS.out]; exact HP.out) (by rw [HP.out, Int.natCast_add, Int.natCast_add]; exact HOP.out), HP.out]
            simp only [Int.natCast_add]
            exact block_setCell (i := 1) (block_setCell (i := 0) ((Below.heap_setCell _ _ _ _ hGH).trans HG8.out) _) _,
            ((HB8.out.setCell (p := ⟨H, 1, none⟩) hge _).setCell (p := ⟨wp.heap.size, 0, none⟩) (Nat.le_refl _) _).setCell (p := ⟨wp.heap.size, 1, none⟩) (Nat.le_refl _) _⟩
          case measure => simp [intOf]; omega
      · have HS := hide hs
        by_cases hop : openB zs ((C : Int) + (P : Int)) (B : Int) = true
        · have HOP := hide hop
          clear hop
          go_wp2_with (first
            | (go_at_call 45; refine (power_was _ _ _ (by omega) (by omega) HPW.out).mono ?_; rintro e w' ⟨rfl, rfl⟩)
            | (go_at_call 64; refine (support_any _ _ _ _ _ (il.below (bel1 wr _)) (by omega) HR.out (by omega)).mono ?_; rintro e w' ⟨rfl, rfl⟩))
          have hX := heap_alloc_new wr (.cells #[.int .i64 ((C : Int) + (P : Int)), .int .i64 (B : Int)] 79)
          have bN := bel1 wr (.cells #[.int .i64 ((C : Int) + (P : Int)), .int .i64 (B : Int)] 79)
          obtain ⟨wn, hwn⟩ : ∃ wn, wr.alloc (.cells #[.int .i64 ((C : Int) + (P : Int)), .int .i64 (B : Int)] 79) = wn := ⟨_, rfl⟩
          rw [hwn] at hX bN ⊢
          obtain ⟨H, hH⟩ : ∃ H, wr.heap.size = H := ⟨_, rfl⟩
          rw [hH] at hX ⊢
          have hGH : wp.heap.size ≠ H := by omega
          have hge : wp.heap.size ≤ H := by omega
          have SN := SR.below bN
          refine (opent_was _ _ _ _ _ _ _ true SN.2.1 hn HZ.out (by omega) (by omega) HOP.out).mono ?_
          rintro e w8 ⟨rfl, hb8⟩
          have hX8 := (hb8.block _ (lt_of_block hX)).trans hX
          have hG8 := (hb8.block _ (Nat.lt_of_lt_of_le hgl bN.size)).trans ((bN.block _ hgl).trans HBK.out)
          have B8 := bnext (bnext BH.out bN) hb8
          have x0 := cell_of_block hX8 0
          have x1 := cell_of_block hX8 1
          have f0 := unfrozen_of_block hG8 0
          have f1 := unfrozen_of_block hG8 1
          have r0 := cell_of_block hG8 0
          have r1 := cell_of_block hG8 1
          have HG8 := hide hG8
          have HB8 := hide B8
          clear hX bN hwn hH SN hb8 hX8 hG8 B8 g0 g1 c0 c1 il
          go_wp2
          go_roundw
          case rel => exact ⟨k + 1, by omega, by go_num, by
            rw [HST.out, stpT_open (q := 0) (by rw [if_neg HS.out]) (by rw [HP.out, Int.natCast_add, Int.natCast_add]; simp only [Int.natCast_zero, Int.add_zero]; exact HOP.out), HP.out]
            simp only [Int.natCast_add, Nat.add_zero]
            exact block_setCell (i := 1) (block_setCell (i := 0) HG8.out _) _, (HB8.out.setCell (p := ⟨wp.heap.size, 0, none⟩) (Nat.le_refl _) _).setCell (p := ⟨wp.heap.size, 1, none⟩) (Nat.le_refl _) _⟩
          case measure => simp [intOf]; omega
        · have hop : openB zs ((C : Int) + (P : Int)) (B : Int) = false := by simpa using hop
          have HOP := hide hop
          clear hop
          go_wp2_with (first
            | (go_at_call 45; refine (power_was _ _ _ (by omega) (by omega) HPW.out).mono ?_; rintro e w' ⟨rfl, rfl⟩)
            | (go_at_call 64; refine (support_any _ _ _ _ _ (il.below (bel1 wr _)) (by omega) HR.out (by omega)).mono ?_; rintro e w' ⟨rfl, rfl⟩))
          have hX := heap_alloc_new wr (.cells #[.int .i64 ((C : Int) + (P : Int)), .int .i64 (B : Int)] 79)
          have bN := bel1 wr (.cells #[.int .i64 ((C : Int) + (P : Int)), .int .i64 (B : Int)] 79)
          obtain ⟨wn, hwn⟩ : ∃ wn, wr.alloc (.cells #[.int .i64 ((C : Int) + (P : Int)), .int .i64 (B : Int)] 79) = wn := ⟨_, rfl⟩
          rw [hwn] at hX bN ⊢
          obtain ⟨H, hH⟩ : ∃ H, wr.heap.size = H := ⟨_, rfl⟩
          rw [hH] at hX ⊢
          have hGH : wp.heap.size ≠ H := by omega
          have hge : wp.heap.size ≤ H := by omega
          have SN := SR.below bN
          refine (opent_was _ _ _ _ _ _ _ false SN.2.1 hn HZ.out (by omega) (by omega) HOP.out).mono ?_
          rintro e w8 ⟨rfl, hb8⟩
          have hX8 := (hb8.block _ (lt_of_block hX)).trans hX
          have hG8 := (hb8.block _ (Nat.lt_of_lt_of_le hgl bN.size)).trans ((bN.block _ hgl).trans HBK.out)
          have B8 := bnext (bnext BH.out bN) hb8
          have x0 := cell_of_block hX8 0
          have x1 := cell_of_block hX8 1
          have f0 := unfrozen_of_block hG8 0
          have f1 := unfrozen_of_block hG8 1
          have r0 := cell_of_block hG8 0
          have r1 := cell_of_block hG8 1
          have HG8 := hide hG8
          have HB8 := hide B8
          have u0 := unfrozen_of_block hX8 0
          have u1 := unfrozen_of_block hX8 1
          clear hX bN hwn hH SN hb8 hX8 hG8 B8 g0 g1 c0 c1 il
          go_wp2
          go_roundw
          case rel => exact ⟨k + 1, by omega, by go_num, by
            rw [HST.out, stpT_shut (q := 0) (by rw [if_neg HS.out]) (by rw [HP.out, Int.natCast_add, Int.natCast_add]; simp only [Int.natCast_zero, Int.add_zero]; exact HOP.out), HP.out]
            simp only [Int.natCast_add, Nat.add_zero]
            exact block_setCell (i := 1) (block_setCell (i := 0) ((Below.heap_setCell _ _ _ _ hGH).trans HG8.out) _) _,
            ((HB8.out.setCell (p := ⟨H, 1, none⟩) hge _).setCell (p := ⟨wp.heap.size, 0, none⟩) (Nat.le_refl _) _).setCell (p := ⟨wp.heap.size, 1, none⟩) (Nat.le_refl _) _⟩
          case measure => simp [intOf]; omega
    · obtain rfl : k = ls.length := by omega
      have g1 := cell_of_block hblk 1
      have hS := bnext S0.2.2.2 BR
      go_wp2
      go_ret
      exact ⟨rfl, hS⟩

end Go.Proofs.YtgebplpbnaeckaaGreatDoor
