/- impl.joinedOnce: its walks. -/
import Derived.Test.YtgebplpbnaeckaaGreatDoorMg11
import Derived.Test.YtgebplpbnaeckaaGreatDoorMg07
namespace Go.Proofs.YtgebplpbnaeckaaGreatDoor
open Go.RowKit Go.Joins

theorem mostOfThree_any (x y z : Nat) (w : World) (hx : x < 16) (hy : y < 16) (hz : z < 16) : Calls Tryz.prog 104 #[.int .i64 x, .int .i64 y, .int .i64 z] w fun e w' => e = .returned (.int .i64 (med x y z : Nat)) ∧ w = w' := by
  have h1 := and_small x y hx hy
  have h2 := and_small x z hx hz
  have h3 := and_small y z hy hz
  have l1 : x &&& y < 16 := Nat.and_lt_two_pow (n := 4) _ hy
  have l2 : x &&& z < 16 := Nat.and_lt_two_pow (n := 4) _ hz
  have l3 : y &&& z < 16 := Nat.and_lt_two_pow (n := 4) _ hz
  have h4 := or_small _ _ l1 l2
  have h5 := or_small (x &&& y ||| x &&& z) (y &&& z) (Nat.or_lt_two_pow (n := 4) l1 l2) l3
  go_enter Tryz.func104, Tryz.ntmps104
  go_wp2
  go_ret
  exact ⟨rfl, rfl⟩

set_option maxHeartbeats 4000000 in
set_option maxRecDepth 100000 in
theorem joinedMed_any (a : Option Addr) (cap : Nat) (zs : List Int) (w : World) (hi : Ints w a zs) (hn : zs.length ≤ 1048576) (hcap : zs.length ≤ cap) (hr : ∀ x ∈ zs, 0 ≤ x ∧ x ≤ 15) :
    Calls Tryz.prog 103 #[.slice a zs.length cap, .func (.func 104) #[] #[]] w (Gives (joinL med zs) w) := by
  obtain ⟨i0, hi0, hz0, hz1, hz2⟩ := info_parts info_int
  have HR := hide hr
  clear hr
  go_enter Tryz.func103, Tryz.ntmps103
  go_wp2_with fail
  go_loopw [17] (fun c wr => ∃ i : Nat, i ≤ zs.length ∧ c = .int .i64 i ∧ Marks wr w.heap.size (MarkA med zs i) ∧ Below w.heap.size w wr ∧ w.heap.size < wr.heap.size) (fun c _ => zs.length - (intOf c).toNat)
  case atStart => exact ⟨0, Nat.zero_le _, rfl, Marks.new w (MarkA med zs 0) (fun t => markA_zero _ _ t), bel1 w _, by simp⟩
  case round =>
    obtain ⟨i, hile, rfl, hM, BR, hg⟩ := hrel
    by_cases hlt : i < zs.length
    · obtain ⟨b, off, rfl, hbl, hc⟩ := hi (by omega)
      have hx := (BR.cell (p := ⟨b, off + i, none⟩) hbl).trans (hc i hlt)
      rw [getD_lt hlt] at hx
      have rx := HR.out _ (mem_of_at hlt)
      obtain ⟨x, hxe⟩ := Int.eq_ofNat_of_zero_le rx.1
      have hx15 : x < 16 := by omega
      have hzx : zN zs i = x := by unfold zN; rw [getD_lt hlt, hxe]; rfl
      rw [hxe] at hx
      obtain ⟨ob, hcell, hfz⟩ := hM.cell hx15
      have hM2 := hide ((hM.set_ hx15).iff_ (fun t => (by rw [← hzx]; exact (markB_start med zs i t).symm : (MarkA med zs i t ∨ t = x) ↔ MarkB med zs i 0 t)))
      have B2 : Below w.heap.size w (wr.setCell ⟨w.heap.size, x, none⟩ (.bool true)) := BR.setCell (p := ⟨w.heap.size, x, none⟩) (Nat.le_refl _) _
      have hg2 : w.heap.size < (wr.setCell ⟨w.heap.size, x, none⟩ (.bool true)).heap.size := by simpa [World.setCell] using hg
      have HX := hide (And.intro hxe hzx)
      have HC := hide hc
      clear hxe hzx rx hM hc
      go_wp2
      clear hcell hfz BR hg hx
      obtain ⟨wo, hwo⟩ : ∃ wo : World, wo = wr.setCell ⟨w.heap.size, x, none⟩ (.bool true) := ⟨_, rfl⟩
      rw [← hwo] at hM2 B2 hg2 ⊢
      clear hwo
      go_loopw [28] (fun c wr => ∃ j : Nat, j ≤ i ∧ c = .int .i64 j ∧ Marks wr w.heap.size (MarkB med zs i j) ∧ Below w.heap.size w wr ∧ w.heap.size < wr.heap.size) (fun c _ => i - (intOf c).toNat)
      case atStart => exact ⟨0, Nat.zero_le _, rfl, hM2.out, B2, hg2⟩
      case round =>
        clear hM2 B2 hg2
        obtain ⟨j, hji, rfl, hM, BR, hg⟩ := hrel
        by_cases hlj : j < i
        · have hjl : j < zs.length := by omega
          have hy := (BR.cell (p := ⟨b, off + j, none⟩) hbl).trans (HC.out j hjl)
          rw [getD_lt hjl] at hy
          have ry := HR.out _ (mem_of_at hjl)
          obtain ⟨y, hye⟩ := Int.eq_ofNat_of_zero_le ry.1
          have hy15 : y < 16 := by omega
          have hzy : zN zs j = y := by unfold zN; rw [getD_lt hjl, hye]; rfl
          rw [hye] at hy
          have HY := hide (And.intro hye hzy)
          have hM2 := hide (hM.iff_ (fun t => (markC_start med zs i j t).symm))
          clear hye hzy ry hM
          go_wp2
          obtain ⟨wi, rfl⟩ : ∃ wi : World, wi = wr := ⟨_, rfl⟩
          go_loopw [37] (fun c wr => ∃ k : Nat, k ≤ j ∧ c = .int .i64 k ∧ Marks wr w.heap.size (MarkC med zs i j k) ∧ Below w.heap.size w wr ∧ w.heap.size < wr.heap.size) (fun c _ => j - (intOf c).toNat)
          case atStart => exact ⟨0, Nat.zero_le _, rfl, hM2.out, BR, hg⟩
          case round =>
            clear hM2 BR hg hy
            obtain ⟨k, hkj, rfl, hM, BR, hg⟩ := hrel
            by_cases hlk : k < j
            · have hkl : k < zs.length := by omega
              have hz := (BR.cell (p := ⟨b, off + k, none⟩) hbl).trans (HC.out k hkl)
              rw [getD_lt hkl] at hz
              have rz := HR.out _ (mem_of_at hkl)
              obtain ⟨z, hze⟩ := Int.eq_ofNat_of_zero_le rz.1
              have hz15 : z < 16 := by omega
              have hzz : zN zs k = z := by unfold zN; rw [getD_lt hkl, hze]; rfl
              rw [hze] at hz
              have hf15 := join_med.lt x y z hx15 hy15 hz15
              obtain ⟨ob, hcell, hfz⟩ := hM.cell hf15
              have hM2 := hide ((hM.set_ hf15).iff_ (fun t => (by rw [markC_step, HX.out.2, HY.out.2, hzz] : (MarkC med zs i j k t ∨ t = med x y z) ↔ MarkC med zs i j (k + 1) t)))
              have B2 : Below w.heap.size w (wr.setCell ⟨w.heap.size, med x y z, none⟩ (.bool true)) := BR.setCell (p := ⟨w.heap.size, med x y z, none⟩) (Nat.le_refl _) _
              have hg2 : w.heap.size < (wr.setCell ⟨w.heap.size, med x y z, none⟩ (.bool true)).heap.size := by simpa [World.setCell] using hg
              clear hze hzz rz hM
              go_wp2_with fail
              refine (mostOfThree_any x y z _ hx15 hy15 hz15).mono ?_
              rintro e w' ⟨rfl, rfl⟩
              go_wp2
              go_roundw
              case rel => exact ⟨k + 1, by omega, by go_num, hM2.out, B2, hg2⟩
              case measure => simp only [intOf]; omega
            · obtain rfl : k = j := by omega
              have hM2 := hide (hM.iff_ (fun t => markC_end med zs i k t))
              clear hM
              go_wp2
              go_roundw
              case rel => exact ⟨k + 1, by omega, by go_num, hM2.out, BR, hg⟩
              case measure => simp only [intOf]; omega
        · obtain rfl : j = i := by omega
          have hM2 := hide (hM.iff_ (fun t => markB_end med zs j t))
          clear hM
          go_wp2
          go_roundw
          case rel => exact ⟨j + 1, by omega, by go_num, hM2.out, BR, hg⟩
          case measure => simp only [intOf]; omega
    · obtain rfl : i = zs.length := by omega
      obtain ⟨hs, hl16, hblk, hiff⟩ := hM
      have HI := hide hiff
      have hinfo : (Tryz.prog.info? 155).map (·.size) = some (hs.map Value.bool).toArray.size := (by kernel_rfl : (Tryz.prog.info? 155).map (·.size) = some 16).trans (by simp [hl16])
      have hidx := index_marks hs hl16
      have HL16 := hide hl16
      clear hiff hl16 hlt hile
      go_wp2_with (refine wpList_load_row rfl 155 _ rfl w.heap.size rfl 155 _ (0, 0) _ hblk Tryz.underlying155 rfl hinfo ?_)
      obtain ⟨wo, rfl⟩ : ∃ wo : World, wo = wr := ⟨_, rfl⟩
      go_loopw [12, 51] (fun v c wr => ∃ t : Nat, t ≤ 16 ∧ c = .int .i64 t ∧ Owns wr wo.heap.size v (((List.range t).filter fun u => hs.getD u false).map fun (u : Nat) => (u : Int)) ∧ Below wo.heap.size wo wr) (fun _ c _ => 16 - (intOf c).toNat)
      case atStart => exact ⟨0, Nat.zero_le _, rfl, World.ownsRow_nil _ _ _ _, Below.refl _ _⟩
      case round =>
        obtain ⟨t, ht, rfl, hown, BW⟩ := hrel
        by_cases hlt : t < 16
        · have hit := hidx t hlt
          have hsz := BW.size
          have hlen : (((List.range t).filter fun u => hs.getD u false).map fun (u : Nat) => (u : Int)).length ≤ t := by
            rw [List.length_map]; exact Nat.le_trans (List.length_filter_le _ _) (by simp)
          have hnext := hide (range_filter (fun u => hs.getD u false) t)
          clear hidx
          by_cases hb : hs.getD t false = true
          · have HB := hide hb
            rw [hb] at hit
            clear hb
            go_wp2_with ((at_builtin; refine wpList_append_own _ rfl _ _ 35 rfl wo.heap.size 3 i0 (.int .i64 0) 1 8 Tryz.underlying35 hi0 hz0 hz1 hz2 rfl (by decide) _ _ _ rfl (hown.alloc _) ⟨wr.heap.size, 0, none⟩ 1 1 [.int .i64 t] rfl rfl ?c1 ?c2 ?c3 ?c4 ?c5 ?_))
            case c1 => exact cell_one_new wr _ _
            case c2 => intro u hu; simp at hu; subst hu; rfl
            case c3 => unfold maxLen; omega
            case c4 => omega
            case c5 => simp; omega
            intro v' w2 hown' hgrow _
            have hpush : Hid (Owns w2 wo.heap.size v' ((((List.range t).filter fun u => hs.getD u false).map fun (u : Nat) => (u : Int)) ++ [(t : Int)])) := by unfold Hid Owns; simpa [Function.comp_def] using hown'
            have hbel : Below wo.heap.size wo w2 := (BW.alloc hsz _).grown hgrow (by simp; omega) (fun j hj => own_ge hown j hj)
            clear hown' hgrow hown
            go_wp2
            go_roundw
            case rel => exact ⟨t + 1, by omega, by go_num, by rw [hnext.out, if_pos HB.out]; exact hpush.out, hbel⟩
            case measure => simp only [intOf]; omega
          · have hb : hs.getD t false = false := by simpa using hb
            have HB := hide hb
            rw [hb] at hit
            clear hb
            go_wp2
            go_roundw
            case rel => exact ⟨t + 1, by omega, by go_num, by rw [hnext.out, if_neg (by rw [HB.out]; decide), List.append_nil]; exact hown, BW⟩
            case measure => simp only [intOf]; omega
        · obtain rfl : t = 16 := by omega
          go_wp2
          go_ret
          refine ⟨_, rfl, ?_, bnext BR BW⟩
          have he : (((List.range 16).filter fun u => hs.getD u false).map fun (u : Nat) => (u : Int)) = joinL med zs := by
            unfold joinL joined
            congr 1
            refine List.filter_congr (fun u hu => ?_)
            rw [Bool.eq_iff_iff, HI.out u (List.mem_range.1 hu), markA_all]
            simp
          rw [← he]
          exact hown.le BR.size
end Go.Proofs.YtgebplpbnaeckaaGreatDoor
