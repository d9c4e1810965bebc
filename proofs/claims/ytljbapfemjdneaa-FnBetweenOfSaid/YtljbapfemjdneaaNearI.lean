/- impl.NearestTo. -/
import Derived.Test.YtljbapfemjdneaaNear
import Derived.Deep.RegionWith
import Derived.Deep.DeepCutAuto
import Derived.Outline
namespace Go.Proofs.Ytljbapfemjdneaa
open Go.RowKit Go.Joins

set_option maxHeartbeats 1000000 in
theorem picked_near (p : Int → Bool) (a : Option Addr) (cap g g' : Nat) (zs : List Int) (w : World) (hi : Ints w a zs) (hn : zs.length ≤ 1048576)
    (hf : ∀ (x : Int) (w' : World), x ∈ zs → Below w.heap.size w w' → Calls Try.prog 74 #[.int .i64 x, .pointer (some ⟨g, 0, none⟩), .pointer (some ⟨g', 0, none⟩)] w' fun e w'' => e = .returned (.bool (p x)) ∧ Below w'.heap.size w' w'') :
    Calls Try.prog 73 #[.slice a zs.length cap, .func (.func 74) #[] #[.pointer (some ⟨g, 0, none⟩), .pointer (some ⟨g', 0, none⟩)]] w fun e w' => ∃ v, e = .returned v ∧ Owns w' w.heap.size v (zs.filter p) ∧ Below w.heap.size w w' := by
  obtain ⟨i0, hi0, hz0, hz1, hz2⟩ := info_parts info_int
  have HF := hide hf
  clear hf
  go_enter Try.func73, Try.ntmps73
  go_wp2_with fail
  go_loopw [5, 10] (fun v i wr => ∃ k : Nat, k ≤ zs.length ∧ i = .int .i64 k ∧ Owns wr w.heap.size v ((zs.take k).filter p) ∧ Below w.heap.size w wr) (fun _ i _ => zs.length - (intOf i).toNat)
  case atStart => exact ⟨0, Nat.zero_le _, rfl, World.ownsRow_nil _ _ _ _, Below.refl _ _⟩
  case round =>
    obtain ⟨k, hk, rfl, hown, hb⟩ := hrel
    by_cases hlt : k < zs.length
    · obtain ⟨b, off, rfl, hbl, hc⟩ := (hi.below hb) (by omega)
      have hck := hc k hlt
      rw [getD_lt hlt] at hck
      have hft := hide (filter_take p zs k hlt)
      have hle := filter_le p zs k
      clear hc hi
      by_cases he : p zs[k] = true
      · have HE := hide he
        clear he
        go_wp2_with fail
        refine (HF.out _ _ (mem_of_at hlt) hb).mono ?_
        rintro e w1 ⟨rfl, h1⟩
        have he := HE.out
        have hb1 := bnext hb h1
        have ho1 : w1.ownsRow w.heap.size 3 1 u5 ((zs.take k).filter p).length (((zs.take k).filter p).map (Value.int .i64)) := hown.below h1
        have hz := hb1.size
        clear h1 hown
        go_wp2_with ((at_builtin; refine wpList_append_own _ rfl _ _ 23 rfl w.heap.size 3 i0 (.int .i64 0) 1 8 Try.underlying23 hi0 hz0 hz1 hz2 rfl (by decide) _ _ _ rfl (ho1.alloc _) ⟨w1.heap.size, 0, none⟩ 1 1 [.int .i64 zs[k]] rfl rfl ?c1 ?c2 ?c3 ?c4 ?c5 ?_))
        case c1 => exact cell_one_new _ _ _
        case c2 => intro u hu; simp at hu; subst hu; rfl
        case c3 => unfold maxLen; omega
        case c4 => omega
        case c5 => simp; omega
        intro v' w2 hown' hgrow _
        have hpush := hide (Owns.push hown')
        have hbel : Below w.heap.size w w2 := (hb1.alloc hz _).grown hgrow (by simp; omega) (fun j hj => (ho1.lt j hj).1)
        clear hown' hgrow ho1
        go_wp2
        go_roundw
        case rel => exact ⟨k + 1, by omega, by go_num, by rw [hft.out, if_pos HE.out]; exact hpush.out, hbel⟩
        case measure => simp only [intOf]; omega
      · have he : p zs[k] = false := by simpa using he
        have HE := hide he
        clear he
        go_wp2_with fail
        refine (HF.out _ _ (mem_of_at hlt) hb).mono ?_
        rintro e w1 ⟨rfl, h1⟩
        have he := HE.out
        go_wp2
        go_roundw
        case rel => exact ⟨k + 1, by omega, by go_num, by rw [hft.out, if_neg (by rw [HE.out]; decide), List.append_nil]; exact hown.below h1, bnext hb h1⟩
        case measure => simp only [intOf]; omega
    · obtain rfl : k = zs.length := by omega
      go_wp2
      go_ret
      exact ⟨_, rfl, by rw [List.take_length] at hown; exact hown, hb⟩

theorem implGapD_any (x y : Int) (w : World) (hx : 0 ≤ x ∧ x ≤ 15) (hy : 0 ≤ y ∧ y ≤ 15) : Calls Try.prog 30 #[.int .i64 x, .int .i64 y] w fun e w' => e = .returned (.int .i64 (dst x y : Nat)) ∧ w = w' := by
  refine (implGapOf_any x y w).mono ?_
  rintro e w' ⟨he, hw⟩
  refine ⟨he.trans (ret_int ?_), hw⟩
  unfold gapV dst
  rw [if_pos ⟨hx, hy⟩, Nat.xor_comm]

/-- A variable of one number. -/
def IBox (w : World) (g : Nat) (x : Int) : Prop := g < w.heap.size ∧ w.cell? ⟨g, 0, none⟩ = some (.int .i64 x)
theorem IBox.below {w w' : World} {g : Nat} {x : Int} (h : IBox w g x) (hb : Below w.heap.size w w') : IBox w' g x := ⟨Nat.lt_of_lt_of_le h.1 hb.size, (hb.cell (p := ⟨g, 0, none⟩) h.1).trans h.2⟩

theorem nearClosure_any (x y : Int) (L g g' : Nat) (w : World) (bx : IBox w g x) (bl : IBox w g' (L : Nat)) (hx : 0 ≤ x ∧ x ≤ 15) (hy : 0 ≤ y ∧ y ≤ 15) :
    Calls Try.prog 74 #[.int .i64 y, .pointer (some ⟨g, 0, none⟩), .pointer (some ⟨g', 0, none⟩)] w fun e w' => e = .returned (.bool (dst x y == L)) ∧ Below w.heap.size w w' := by
  have c0 := bx.2
  have c1 := bl.2
  have HX := hide hx
  have HY := hide hy
  clear hx hy bx bl
  go_enter Try.func74, Try.ntmps74
  go_wp2_with fail
  go_quiet ((go_at_call 30; exact quiet_left (implGapD_any _ _ _ HX.out HY.out)))
  go_wp2
  go_ret
  refine ⟨ret_bool ?_, belN _ _⟩
  rw [Bool.eq_iff_iff, beq_iff_eq]
  simp
  omega

set_option maxHeartbeats 4000000 in
theorem implNearestTo_any (n x : Int) (a : Option Addr) (cap : Nat) (zs : List Int) (w : World) (hi : Ints w a zs) (hn : zs.length ≤ 1048576) :
    Calls Try.prog 20 #[.agg #[.int .i64 n, .slice a zs.length cap], .int .i64 x] w (Gives (nearL n zs x) w) := by
  have S0 := (SV.new w n a zs cap none [] 25 hi (Ints.nil _ _)).below (bel1 _ (.cells #[.int .i64 x] 3))
  have X0 : IBox ((w.alloc (.cells #[.int .i64 n, .slice a zs.length cap] 25)).alloc (.cells #[.int .i64 x] 3)) (w.heap.size + 1) x := ⟨by simp, by simp [go_sem]⟩
  clear hi
  by_cases hv : vsB n zs = false
  · have HN := hide (nearL_no (x := x) (fun h : NearOk n zs x => by rw [vsB_true h.1] at hv; cases hv))
    go_enter Try.func20, Try.ntmps20
    go_wp2_with fail
    refine (implValidSpace_any _ _ _ _ _ S0.2.1 hn).mono ?_
    rintro e w1 ⟨rfl, hb⟩
    go_wp2
    go_ret
    exact gives_nil HN.out (S0.below hb).2.2.2
  · have hv : vsB n zs = true := by simpa using hv
    have hV := hide (valid_of hv)
    have hpos := hV.out.2.1
    have h14 := hV.out.1
    have HR := hide (valid_range hV.out)
    have p1 := pw_pos n
    have p2 := pw_le n h14.2
    by_cases hx : 0 ≤ x ∧ x ≤ pw n - 1
    · have dx : decide (0 ≤ x ∧ x ≤ pw n - 1) = true := by simpa using hx
      have HK : Hid (NearOk n zs x) := ⟨hV.out, hx⟩
      have rx : Hid (0 ≤ x ∧ x ≤ 15) := ⟨hx.1, by omega⟩
      clear hx
      go_enter Try.func20, Try.ntmps20
      go_wp2_with fail
      refine (implValidSpace_any _ _ _ _ _ S0.2.1 hn).mono ?_
      rintro e w1 ⟨rfl, hb⟩
      have S1 := S0.below hb
      have X1 := X0.below hb
      clear S0 hb X0
      obtain ⟨⟨_, c0, c1⟩, iz, _⟩ := S1.pair
      obtain ⟨_, x0⟩ := show w.heap.size + 1 < w1.heap.size ∧ w1.cell? ⟨w.heap.size + 1, 0, none⟩ = some (.int .i64 x) from X1
      obtain ⟨b, off, rfl, hbl, hc⟩ := iz hpos
      have h0 := hc 0 hpos
      rw [getD_lt hpos, Nat.add_zero] at h0
      have r0 := hide (HR.out _ (mem_of_at hpos))
      clear hc iz
      have hk0 := hide (show leastK x zs 0 = dst x zs[0] from by rw [leastK, getD_lt hpos])
      go_upto_region 3 with (go_at_call 72; refine (isJudgment_any _ _ _ (by omega) (by omega)).mono ?_; rintro e w' ⟨rfl, rfl⟩)
      go_cut [5] (fun v wx => v = .pointer (some ⟨w1.heap.size, 0, none⟩) ∧ wx.heap[w1.heap.size]? = some (.cells #[.int .i64 (leastK x zs 0 : Nat)] 3 (0, 0)) ∧ Below w1.heap.size w1 wx)
      case first =>
        go_region_with ((go_at_call 30; refine (implGapD_any _ _ _ rx.out r0.out).mono ?_; rintro e w' ⟨rfl, rfl⟩))
        all_goals
          go_wp2_with fail
          go_meet
          rw [hk0.out]
          exact ⟨rfl, heap_alloc_new w1 _, bdrew' (bel1 w1 _)⟩
      case rest =>
        obtain ⟨rfl, hblk, BR⟩ := hcut
        clear c0 c1 x0 h0 hbl
        obtain ⟨⟨_, c0, c1⟩, _⟩ := (S1.below BR).pair
        go_wp2_with fail
        go_loopw [27] (fun i wr => ∃ k : Nat, k ≤ zs.length ∧ i = .int .i64 k ∧ wr.heap[w1.heap.size]? = some (.cells #[.int .i64 (leastK x zs k : Nat)] 3 (0, 0)) ∧ Below w1.heap.size w1 wr) (fun i _ => zs.length - (intOf i).toNat)
        case atStart => exact ⟨0, Nat.zero_le _, rfl, hblk, BR⟩
        case round =>
          clear c0 c1 hblk BR
          obtain ⟨k, hk, rfl, hblk, BR⟩ := hrel
          have SR := S1.below BR
          have XR := X1.below BR
          obtain ⟨⟨_, c0, c1⟩, iz, _⟩ := SR.pair
          obtain ⟨_, x0⟩ := show w.heap.size + 1 < wr.heap.size ∧ wr.cell? ⟨w.heap.size + 1, 0, none⟩ = some (.int .i64 x) from XR
          have g0 := cell_of_block hblk 0
          have hgl := lt_of_block hblk
          by_cases hlt : k < zs.length
          · obtain ⟨b', off', e', hbl, hc⟩ := iz hpos
            simp only [Option.some.injEq, Addr.mk.injEq, and_true] at e'
            obtain ⟨rfl, rfl⟩ := e'
            have hck := hc k hlt
            rw [getD_lt hlt] at hck
            have f0 := unfrozen_of_block hblk 0
            have rz := hide (HR.out _ (mem_of_at hlt))
            have hk1 := hide (show leastK x zs (k + 1) = min (leastK x zs k) (dst x zs[k]) from by rw [leastK, getD_lt hlt])
            clear hc iz
            have B2 : ∀ v, Below w1.heap.size w1 ((wr.setCell ⟨w1.heap.size, 0, none⟩ v)) := fun v => BR.setCell (p := ⟨w1.heap.size, 0, none⟩) (Nat.le_refl _) v
            have H2 := hide B2
            clear B2
            by_cases hm : leastK x zs k ≤ dst x zs[k]
            · go_upto_region 7 with fail
              go_region_with ((go_at_call 30; refine (implGapD_any _ _ _ rx.out rz.out).mono ?_; rintro e w' ⟨rfl, rfl⟩))
              all_goals go_wp2_with fail
              all_goals
                go_roundw
                case rel => exact ⟨k + 1, by omega, by go_num, by rw [hk1.out, Nat.min_eq_left hm]; exact block_setCell (i := 0) hblk _, bdrew' (H2.out _)⟩
                case measure => simp [intOf]; omega
            · have hm' : dst x zs[k] ≤ leastK x zs k := by omega
              go_upto_region 7 with fail
              go_region_with ((go_at_call 30; refine (implGapD_any _ _ _ rx.out rz.out).mono ?_; rintro e w' ⟨rfl, rfl⟩))
              all_goals go_wp2_with fail
              all_goals
                go_roundw
                case rel => exact ⟨k + 1, by omega, by go_num, by rw [hk1.out, Nat.min_eq_right hm']; exact block_setCell (i := 0) hblk _, bdrew' (H2.out _)⟩
                case measure => simp [intOf]; omega
          · obtain rfl : k = zs.length := by omega
            have HX := hide XR
            have px : IBox wr w1.heap.size (leastK x zs zs.length : Nat) := ⟨hgl, g0⟩
            have HP := hide px
            have HS := hide SR
            clear px XR iz SR
            go_wp2_with fail
            refine (picked_near (nearP x zs) _ _ _ _ _ _ HS.out.2.1 hn
              (fun y w' hy hb => nearClosure_any _ _ _ _ _ _ (HX.out.below hb) (HP.out.below hb) rx.out (HR.out _ hy))).mono ?_
            rintro e w4 ⟨v, rfl, hov, hb4⟩
            go_wp2
            go_ret
            exact ⟨v, rfl, by rw [nearL_yes HK.out]; exact hov.le HS.out.2.2.2.size, (HS.out.below hb4).2.2.2⟩
    · have dx : decide (0 ≤ x ∧ x ≤ pw n - 1) = false := by simpa using hx
      have HN := hide (nearL_no (x := x) (fun h : NearOk n zs x => hx h.2))
      clear hx
      go_enter Try.func20, Try.ntmps20
      go_wp2_with fail
      refine (implValidSpace_any _ _ _ _ _ S0.2.1 hn).mono ?_
      rintro e w1 ⟨rfl, hb⟩
      have SR := S0.below hb
      obtain ⟨⟨_, c0, c1⟩, _⟩ := SR.pair
      obtain ⟨_, x0⟩ := show w.heap.size + 1 < w1.heap.size ∧ w1.cell? ⟨w.heap.size + 1, 0, none⟩ = some (.int .i64 x) from X0.below hb
      go_wp2_with (go_at_call 72; refine (isJudgment_any _ _ _ (by omega) (by omega)).mono ?_; rintro e w' ⟨rfl, rfl⟩)
      go_ret
      exact gives_nil HN.out SR.2.2.2
end Go.Proofs.Ytljbapfemjdneaa
