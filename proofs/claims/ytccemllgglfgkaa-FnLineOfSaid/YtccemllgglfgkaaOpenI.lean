/- impl.IsOpen answers what IsOpen asks. -/
import Derived.Test.YtccemllgglfgkaaOpen
import Derived.Deep.RegionWith
namespace Go.Proofs.Ytccemllgglfgkaa
open Go.RowKit Go.Joins

theorem implValidPart_is (n : Int) (a : Option Addr) (cap : Nat) (zs : List Int) (c b : Int) (w : World) (r : Bool) (hi : Ints w a zs) (hn : zs.length ≤ 1048576) (wb : (Lit.int .i64 b).wf = true) (hr : vpB n zs c b = r) :
    Calls Try.prog 123 #[.agg #[.int .i64 n, .slice a zs.length cap], .agg #[.int .i64 c, .int .i64 b]] w fun e w' => e = .returned (.bool r) ∧ Below w.heap.size w w' :=
  (implValidPart_any n a cap zs c b w hi hn wb).mono fun _ _ ⟨he, hb⟩ => ⟨he.trans (ret_bool hr), hb⟩

set_option maxHeartbeats 1000000 in
theorem implIsOpen_any (n : Int) (a : Option Addr) (cap : Nat) (zs : List Int) (c b : Int) (w : World) (hi : Ints w a zs) (hn : zs.length ≤ 1048576) (wb : (Lit.int .i64 b).wf = true) :
    Calls Try.prog 82 #[.agg #[.int .i64 n, .slice a zs.length cap], .agg #[.int .i64 c, .int .i64 b]] w fun e w' => e = .returned (.bool (opB n zs c b)) ∧ Below w.heap.size w w' := by
  have bx := (Box.new w n a zs.length cap 28).below (bel1 (w.alloc (.cells #[.int .i64 n, .slice a zs.length cap] 28)) (.cells #[.int .i64 c, .int .i64 b] 67))
  have px := PBox.new (w.alloc (.cells #[.int .i64 n, .slice a zs.length cap] 28)) c b 67
  simp only [World.size_alloc] at px
  have ia := hi.below (bel2 w (.cells #[.int .i64 n, .slice a zs.length cap] 28) (.cells #[.int .i64 c, .int .i64 b] 67))
  clear hi
  have WB := hide wb
  clear wb
  by_cases hv : vpB n zs c b = false
  · have HV := hide (opB_false hv)
    have HVV := hide hv
    clear hv
    obtain ⟨_, c0, c1⟩ := bx
    obtain ⟨_, p0, p1⟩ := px
    go_enter Try.func82, Try.ntmps82
    go_wp2_with fail
    go_region_with ((go_at_call 123; refine (implValidPart_is _ _ _ _ _ _ _ false (ia.below (bdrew' (Below.refl _ _))) hn WB.out HVV.out).mono ?_; rintro e w1 ⟨rfl, hb⟩))
    all_goals
      go_wp2
      go_ret
      exact ⟨ret_bool HV.out.symm, bnext (bel2 w _ _) (bdrew hb)⟩
  · have hv : vpB n zs c b = true := by simpa using hv
    have HV := hide (opB_true hv)
    have HVV := hide hv
    have ⟨hV, hP⟩ := vp_of hv
    have p2 := pw_le n hV.1.2
    have HR := hide (valid_range hV)
    have HC : Hid (0 ≤ c ∧ c ≤ 15) := ⟨hP.1.1, by have := hP.1.2; omega⟩
    have HB : Hid (0 ≤ b) := hP.2.1.1
    clear hV hP p2 hv
    have ⟨_, c0, c1⟩ := bx
    have ⟨_, p0, p1⟩ := px
    go_enter Try.func82, Try.ntmps82
    go_wp2_with fail
    go_region_with ((first
      | (go_at_call 123; refine (implValidPart_is _ _ _ _ _ _ _ true (ia.below (bdrew' (Below.refl _ _))) hn WB.out HVV.out).mono ?_; rintro e w1 ⟨rfl, hb⟩; have hb' := bdrew hb; have ⟨_, e0, e1⟩ := bx.below hb'; have ⟨_, q0, q1⟩ := px.below hb')
      | (go_at_call 79; refine (openAsker_any _ _ _ _ _).mono ?_; rintro e w2 ⟨rfl, rfl⟩)
      | (go_at_call 119; refine (openAsker1_any _ _ _ _ _ _ _ _ ((ia.below hb').below (bel1 w1 _)) hn (Box.new w1 n a zs.length cap 28) HR.out HC.out HB.out).mono ?_; rintro e w3 ⟨rfl, hb3⟩)))
    all_goals
      go_wp2
      go_ret
      exact ⟨ret_bool HV.out.symm, bnext (bnext (bnext (bel2 w _ _) hb') (bel1 w1 _)) hb3⟩

end Go.Proofs.Ytccemllgglfgkaa
