/- WantedPart in the model. -/
import Derived.Test.YtcophcjkhdipbaaGreatWant
import Derived.Deep.RegionWith
import Derived.Deep.DeepCutAuto
import Derived.Outline
namespace Go.Proofs.YtcophcjkhdipbaaGreat
open Go.RowKit Go.Joins

theorem WV.set {w0 wx : World} {n : Int} {a l : Option Addr} {zs vs : List Int} {cap : Nat} (h : WV w0 n a zs cap l vs wx) (u v : Value) :
    Below w0.heap.size w0 ((wx.setCell ⟨w0.heap.size + 1, 0, none⟩ u).setCell ⟨w0.heap.size + 1, 1, none⟩ v) :=
  (h.2.2.2.2.setCell (p := ⟨w0.heap.size + 1, 0, none⟩) (by show w0.heap.size ≤ w0.heap.size + 1; omega) u).setCell (p := ⟨w0.heap.size + 1, 1, none⟩) (by show w0.heap.size ≤ w0.heap.size + 1; omega) v

set_option maxHeartbeats 4000000 in
theorem wanted_any (m : Nat) (a l : Option Addr) (cap capl : Nat) (zs vs : List Int) (w : World) (hi : Ints w a zs) (hj : Ints w l vs) (h5 : vs.length ≤ 5) (h4 : m ≤ 4) (hr : ∀ x ∈ vs, 0 ≤ x ∧ x ≤ 15) :
    Calls Tryz.prog 20 #[.agg #[.int .i64 m, .slice a zs.length cap], .slice l vs.length capl] w fun e w' => e = .returned (.agg #[.int .i64 (wantC vs m : Nat), .int .i64 (wantB vs m : Nat)]) ∧ Below w.heap.size w w' := by
  have S0 := WV.new w m a l zs vs cap hi hj
  have hblk0 := heap_alloc_new ((w.alloc (.cells #[.int .i64 m, .slice a zs.length cap] 25)).alloc (.cells #[.int .i64 0, .int .i64 0] 41)) (.cells #[.int .i64 0, .int .i64 0] 41)
  have hB0 := bel1 ((w.alloc (.cells #[.int .i64 m, .slice a zs.length cap] 25)).alloc (.cells #[.int .i64 0, .int .i64 0] 41)) (.cells #[.int .i64 0, .int .i64 0] 41)
  simp only [World.size_alloc] at hblk0
  obtain ⟨W0, hW0⟩ : ∃ W0 : World, W0 = (w.alloc (.cells #[.int .i64 m, .slice a zs.length cap] 25)).alloc (.cells #[.int .i64 0, .int .i64 0] 41) := ⟨_, rfl⟩
  have hz0 : W0.heap.size = w.heap.size + 1 + 1 := by rw [hW0]; simp
  rw [← hW0] at S0 hB0
  have HZ := hide hz0
  have HS := hide S0
  have HR := hide hr
  have HB0 : Hid (Below W0.heap.size W0 (((w.alloc (.cells #[.int .i64 m, .slice a zs.length cap] 25)).alloc (.cells #[.int .i64 0, .int .i64 0] 41)).alloc (.cells #[.int .i64 0, .int .i64 0] 41))) := by rw [← hW0]; exact hB0
  clear hi hj hr hW0 hz0 S0 hB0
  go_enter Tryz.func20, Tryz.ntmps20
  go_wp2_with fail
  go_loopw [6] (fun i wr => ∃ k : Nat, k ≤ m ∧ i = .int .i64 k ∧ wr.heap[w.heap.size + 1 + 1]? = some (.cells #[.int .i64 (wantC vs k : Nat), .int .i64 0] 41 (0, 0)) ∧ Below W0.heap.size W0 wr) (fun i _ => m - (intOf i).toNat)
  case atStart => exact ⟨0, Nat.zero_le _, rfl, hblk0, HB0.out⟩
  case round =>
    clear hblk0
    obtain ⟨k, hk, rfl, hblk, BR⟩ := hrel
    have SR := HS.out.below BR
    have ⟨⟨_, c0, c1⟩, iz, il, hres, _⟩ := SR
    have g0 := cell_of_block hblk 0
    have g1 := cell_of_block hblk 1
    have BH := hide BR
    have HBK := hide hblk
    clear SR BR
    by_cases hlt : k < m
    · have hs := supN_le vs k
      by_cases he : 2 * supN vs k = vs.length
      · have hE : ((2 * (supN vs k : Int)) != (vs.length : Int)) = false := by rw [bne_eq_false_iff_eq]; omega
        have HC1 := hide (wantC_no he)
        clear hblk hres
        go_wp2_with (go_at_call 42; refine (support_any _ _ _ _ _ il (by omega) HR.out (by omega)).mono ?_; rintro e w' ⟨rfl, rfl⟩)
        go_roundw
        case rel => exact ⟨k + 1, by omega, by go_num, by rw [HC1.out]; exact HBK.out, BH.out⟩
        case measure => simp only [intOf]; omega
      · have hE : ((2 * (supN vs k : Int)) != (vs.length : Int)) = true := by rw [bne_iff_ne]; omega
        have HC1 := hide (wantC_yes he)
        have hp := pw_nat k
        have hpb := pow_small k (by omega)
        have hcl := wantC_lt vs k
        have hc16 : wantC vs k ≤ 16 := Nat.le_trans (Nat.le_of_lt hcl) (Nat.pow_le_pow_right (n := 2) (by omega) (show k ≤ 4 from by omega))
        have hsum : IntKind.i64.wrap ((wantC vs k : Int) + 2 ^ k) = (wantC vs k : Int) + 2 ^ k := IntWalk.i64_in _ (by omega)
        have f0 := unfrozen_of_block hblk 0
        clear hblk hres hcl
        go_upto_region 6 with (go_at_call 42; refine (support_any _ _ _ _ _ il (by omega) HR.out (by omega)).mono ?_; rintro e w' ⟨rfl, rfl⟩)
        go_region_with ((go_at_call 40; refine (power_any _ _ (by omega) (by omega)).mono ?_; rintro e w' ⟨rfl, rfl⟩))
        all_goals go_wp2_with fail
        all_goals
          go_roundw
          case rel =>
            refine ⟨k + 1, by omega, by go_num, ?_, bdrew' (BH.out.setCell (p := ⟨w.heap.size + 1 + 1, 0, none⟩) (by show W0.heap.size ≤ w.heap.size + 1 + 1; rw [HZ.out]; exact Nat.le_refl _) _)⟩
            rw [HC1.out, Int.natCast_add, pow_cast]
            exact block_setCell (i := 0) HBK.out _
          case measure => simp [intOf]; omega
    · obtain rfl : k = m := by omega
      have f1 := unfrozen_of_block hblk 1
      have hgl := lt_of_block hblk
      have hrl := lt_of_block hres
      clear hblk
      go_wp2_with fail
      refine (majority_any _ _ _ _ _ _ _ _ il h5 h4 HR.out).mono ?_
      rintro e w3 ⟨rfl, hb3⟩
      have hblk3 := (hb3.block _ hgl).trans HBK.out
      have hres3 := (hb3.block _ hrl).trans hres
      have B3 := hide (bnext BH.out (hb3.mono (by exact Nat.le_refl _)))
      have p0 := cell_of_block hblk3 0
      have p1 := cell_of_block hblk3 1
      have q1 := unfrozen_of_block hblk3 1
      have f0 := unfrozen_of_block hres3 0
      have f2 := unfrozen_of_block hres3 1
      have r0 := cell_of_block hres3 0
      have r1 := cell_of_block hres3 1
      have HR3 := hide hres3
      clear g0 g1 c0 c1 f1 hblk3 hres3 hres
      go_wp2
      have hres4 := (Below.heap_setCell w3 ⟨w.heap.size + 1 + 1, 1, none⟩ (.int .i64 (wantB vs k : Nat)) (w.heap.size + 1) (by show w.heap.size + 1 ≠ w.heap.size + 1 + 1; omega)).trans HR3.out
      refine bodyPost_ret (ret_part rfl _ _ _ _ _ rfl (block_setCell (i := 1) (block_setCell (i := 0) hres4 _) _)) rfl ?_
      refine ⟨rfl, ?_⟩
      have hW := HS.out.2.2.2.2
      have hB := bnext hW B3.out
      exact ((hB.setCell (p := ⟨w.heap.size + 1 + 1, 1, none⟩) (by show w.heap.size ≤ w.heap.size + 1 + 1; omega) _).setCell (p := ⟨w.heap.size + 1, 0, none⟩) (by show w.heap.size ≤ w.heap.size + 1; omega) _).setCell (p := ⟨w.heap.size + 1, 1, none⟩) (by show w.heap.size ≤ w.heap.size + 1; omega) _

end Go.Proofs.YtcophcjkhdipbaaGreat
