/- The model's IsOpen. -/
import Derived.Test.YtklgganapphioaaOpen
import Derived.Deep.RegionWith
namespace Go.Proofs.Ytklgganapphioaa
open Go.RowKit Go.Joins


set_option maxHeartbeats 1000000 in
theorem specIsOpen_any (n : Int) (a : Option Addr) (cap : Nat) (zs : List Int) (c b : Int) (w : World) (hi : Ints w a zs) (hn : zs.length ≤ 1048576) :
    Calls Try.prog 41 #[.agg #[.int .i64 n, .slice a zs.length cap], .agg #[.int .i64 c, .int .i64 b]] w fun e w' => e = .returned (.bool (opB n zs c b)) ∧ Below w.heap.size w w' := by
  have bx := (Box.new w n a zs.length cap 28).below (bel1 (w.alloc (.cells #[.int .i64 n, .slice a zs.length cap] 28)) (.cells #[.int .i64 c, .int .i64 b] 52))
  have px := PBox.new (w.alloc (.cells #[.int .i64 n, .slice a zs.length cap] 28)) c b 52
  simp only [World.size_alloc] at px
  have ia := hi.below (bel2 w (.cells #[.int .i64 n, .slice a zs.length cap] 28) (.cells #[.int .i64 c, .int .i64 b] 52))
  clear hi
  by_cases hv : vsB n zs = false
  · have HV := hide (opB_false (vpB_false (c := c) (b := b) hv))
    go_enter Try.func41, Try.ntmps41
    go_wp2_with fail
    refine (validSpace_any _ _ _ _ _ ia hn).mono ?_
    rintro e w1 ⟨rfl, hb⟩
    go_wp2
    go_ret
    exact ⟨ret_bool HV.out.symm, bnext (bel2 w _ _) hb⟩
  · have hv : vsB n zs = true := by simpa using hv
    have hV := valid_of hv
    have h14 := hV.1
    have p2 := pw_le n hV.1.2
    have HR := hide (valid_range hV)
    clear hV
    by_cases hp : ptB n c b = false
    · have HV := hide (opB_false (n := n) (zs := zs) (c := c) (b := b) (by rw [vpB_true hv]; exact hp))
      go_enter Try.func41, Try.ntmps41
      go_wp2_with fail
      refine (validSpace_any _ _ _ _ _ ia hn).mono ?_
      rintro e w1 ⟨rfl, hb⟩
      obtain ⟨_, c0, c1⟩ := bx.below hb
      obtain ⟨_, p0, p1⟩ := px.below hb
      go_wp2_with fail
      refine (validPart_any n c b _ _ _ _ (by omega) (by omega)).mono ?_
      rintro e w2 ⟨rfl, hb2⟩
      go_wp2
      go_ret
      exact ⟨ret_bool HV.out.symm, bnext (bnext (bel2 w _ _) hb) hb2⟩
    · have hp : ptB n c b = true := by simpa using hp
      have HV := hide (opB_true (n := n) (zs := zs) (c := c) (b := b) (by rw [vpB_true hv]; exact hp))
      have hP : IsPt n c b := by simpa [ptB] using hp
      have HC : Hid (0 ≤ c ∧ c ≤ 15) := ⟨hP.1.1, by have := hP.1.2; omega⟩
      have HB : Hid (0 ≤ b) := hP.2.1.1
      clear hP
      go_enter Try.func41, Try.ntmps41
      go_wp2_with fail
      refine (validSpace_any _ _ _ _ _ ia hn).mono ?_
      rintro e w1 ⟨rfl, hb⟩
      obtain ⟨_, c0, c1⟩ := bx.below hb
      obtain ⟨_, p0, p1⟩ := px.below hb
      go_wp2_with fail
      refine (validPart_any n c b _ _ _ _ (by omega) (by omega)).mono ?_
      rintro e w2 ⟨rfl, hb2⟩
      have B2 := bnext hb hb2
      clear c0 c1 p0 p1
      obtain ⟨_, c0, c1⟩ := bx.below B2
      obtain ⟨_, p0, p1⟩ := px.below B2
      go_wp2_with fail
      refine (open_any _ _ _ _ _ _ _ (ia.below B2) hn HR.out HC.out HB.out).mono ?_
      rintro e w3 ⟨rfl, hb3⟩
      go_wp2
      go_ret
      exact ⟨ret_bool HV.out.symm, bnext (bnext (bel2 w _ _) B2) hb3⟩
end Go.Proofs.Ytklgganapphioaa
