/- The law FnExactValidPart answers true at every argument: its walk. -/
import Derived.Test.YtdcipaioobkekaaPart
import Derived.Deep.RegionWith
import Derived.Deep.DeepCutAuto
namespace Go.Proofs.Ytdcipaioobkekaa
open Go.RowKit Go.Joins

/-- The law's own variables, in whatever world: the space, the part, the argument's numbers; nothing old has turned. -/
def SP (w0 : World) (n : Int) (a : Option Addr) (zs : List Int) (cap : Nat) (c b : Int) (wx : World) : Prop :=
  Box wx w0.heap.size n a zs.length cap ∧ PBox wx (w0.heap.size + 1) c b ∧ Ints wx a zs ∧ Below w0.heap.size w0 wx
theorem SP.below {w0 wx wy : World} {n : Int} {a : Option Addr} {zs : List Int} {cap : Nat} {c b : Int} (h : SP w0 n a zs cap c b wx) (hb : Below wx.heap.size wx wy) : SP w0 n a zs cap c b wy :=
  ⟨h.1.below hb, h.2.1.below hb, h.2.2.1.below hb, bnext h.2.2.2 hb⟩
theorem SP.drew {w0 wx : World} {n : Int} {a : Option Addr} {zs : List Int} {cap : Nat} {c b : Int} (h : SP w0 n a zs cap c b wx) : SP w0 n a zs cap c b wx.drew :=
  h.below (bdrew' (Below.refl _ _))
theorem SP.new (w : World) (n : Int) (a : Option Addr) (zs : List Int) (cap : Nat) (c b : Int) (t u : TypeId) (hi : Ints w a zs) : SP w n a zs cap c b ((w.alloc (.cells #[.int .i64 n, .slice a zs.length cap] t)).alloc (.cells #[.int .i64 c, .int .i64 b] u)) :=
  ⟨(Box.new w n a zs.length cap t).below (bel1 _ _), by have := PBox.new (w.alloc (.cells #[.int .i64 n, .slice a zs.length cap] t)) c b u; simpa only [World.size_alloc] using this, hi.below (bel2 w _ _), bel2 w _ _⟩
theorem SP.pair {w0 wx : World} {n : Int} {a : Option Addr} {zs : List Int} {cap : Nat} {c b : Int} (h : SP w0 n a zs cap c b wx) : Box wx w0.heap.size n a zs.length cap ∧ PBox wx (w0.heap.size + 1) c b ∧ Ints wx a zs ∧ Below w0.heap.size w0 wx := h
/-- A copy of the space in a variable: x0. -/
def Copy (wx : World) (g : Nat) (n : Int) (s : Nat) (zs : List Int) : Prop := Box wx g n (some ⟨s, 0, none⟩) zs.length zs.length ∧ Ints wx (some ⟨s, 0, none⟩) zs
theorem Copy.below {wx wy : World} {g : Nat} {n : Int} {s : Nat} {zs : List Int} (h : Copy wx g n s zs) (hb : Below wx.heap.size wx wy) : Copy wy g n s zs := ⟨h.1.below hb, h.2.below hb⟩
theorem Copy.drew {wx : World} {g : Nat} {n : Int} {s : Nat} {zs : List Int} (h : Copy wx g n s zs) : Copy wx.drew g n s zs := h.below (bdrew' (Below.refl _ _))
theorem Copy.pair {wx : World} {g : Nat} {n : Int} {s : Nat} {zs : List Int} (h : Copy wx g n s zs) : Box wx g n (some ⟨s, 0, none⟩) zs.length zs.length ∧ Ints wx (some ⟨s, 0, none⟩) zs := h
theorem Copy.new (w : World) (n : Int) (s : Nat) (zs : List Int) (t : TypeId) (h : Ints w (some ⟨s, 0, none⟩) zs) : Copy (w.alloc (.cells #[.int .i64 n, .slice (some ⟨s, 0, none⟩) zs.length zs.length] t)) w.heap.size n s zs :=
  ⟨Box.new _ _ _ _ _ _, h.below (bel1 _ _)⟩

set_option maxHeartbeats 2000000 in
theorem walk_FnExactValidPart (n : Int) (a : Option Addr) (zs : List Int) (cap : Nat) (c b : Int) (w : World) (_wn : (Lit.int .i64 n).wf = true) (hi : Ints w a zs) (hl : zs.length ≤ maxLen) (_wc : (Lit.int .i64 c).wf = true) (wb : (Lit.int .i64 b).wf = true) :
    Calls Try.prog 5 #[.agg #[.int .i64 n, .slice a zs.length cap], .agg #[.int .i64 c, .int .i64 b]] w fun e w' => e = .returned (.bool true) ∧ Below w.heap.size w w' := by
  have WB := hide wb
  clear wb
  by_cases h : 1048576 < zs.length
  · have hlt : left 1048576 zs.length < 0 := by unfold left; rw [if_pos (by omega)]; omega
    go_enter Try.func5, Try.ntmps5
    go_wp2_with fail
    refine (szSpace_any _ _ _ _ _ _ hl (by omega) (by omega)).mono ?_
    rintro e w1 ⟨rfl, hb1⟩
    go_wp2
    go_ret
    exact ⟨rfl, bnext (bel2 w _ _) hb1⟩
  · have hn : zs.length ≤ 1048576 := by omega
    have hlt : 0 ≤ left 1048576 zs.length := by unfold left; rw [if_neg (by omega)]; omega
    have S0 := SP.new w n a zs cap c b 24 34 hi
    have hne : (vpB n zs c b != vpB n zs c b) = false := by simp
    clear h hl hi
    go_enter Try.func5, Try.ntmps5
    go_wp2_with fail
    refine (szSpace_any _ _ _ _ _ _ (by unfold maxLen; omega) (by omega) (by omega)).mono ?_
    rintro e w1 ⟨rfl, B1⟩
    have S1 := S0.below B1
    clear B1 S0
    have ⟨⟨_, c0, c1⟩, ⟨_, p0, p1⟩, _, _⟩ := S1
    go_upto_region 5 with fail
    go_cut [6] (fun s6 wx => s6 = .bool (vpB n zs c b) ∧ SP w n a zs cap c b wx)
    case first =>
      go_region_with ((first
        | (go_at_call 17; refine (toSpace_any _ _ _ _ _ (S1.drew.2.2.1) hn).mono ?_; rintro e w2 ⟨s2, rfl, own2, hb2⟩; have S2 := S1.drew.below hb2; have ⟨⟨_, e0, e1⟩, ⟨_, q0, q1⟩, _, _⟩ := S2)
        | (go_at_call 23; refine (toPart_any _ _ _).mono ?_; rintro e w3 ⟨rfl, hb3⟩)
        | (go_at_call 22; refine (specValidPart_any _ _ _ _ _ _ _ (own2.ints.below hb3) hn).mono ?_; rintro e w4 ⟨rfl, hb4⟩)))
      all_goals
        go_wp2_with fail
        go_meet
        exact ⟨rfl, (S2.below hb3).below hb4⟩
    case rest =>
      obtain ⟨rfl, S5⟩ := hcut
      clear S1 c0 c1 p0 p1
      obtain ⟨⟨_, c0, c1⟩, ⟨_, p0, p1⟩, i5, _⟩ := S5.pair
      go_wp2_with fail
      refine (toSpace_any _ _ _ _ _ i5 hn).mono ?_
      rintro e w6 ⟨s6, rfl, own6, hb6⟩
      have X7 := Copy.new w6 n s6 zs 27 own6.ints
      have S7 := (S5.below hb6).below (bel1 w6 (.cells #[.int .i64 n, .slice (some ⟨s6, 0, none⟩) zs.length zs.length] 27))
      clear S5 c0 c1 p0 p1 i5 own6 hb6
      obtain ⟨⟨_, c0, c1⟩, ⟨_, p0, p1⟩, i7, _⟩ := S7.pair
      go_upto_region 7 with fail
      go_cut [8] (fun s8 wx => s8 = .bool (vpB n zs c b) ∧ SP w n a zs cap c b wx ∧ Copy wx w6.heap.size n s6 zs)
      case first =>
        go_region_with ((first
          | (go_at_call 23; refine (toPart_any _ _ _).mono ?_; rintro e w8 ⟨rfl, hb8⟩; have X8 := X7.drew.below hb8; have ⟨⟨_, x0, x1⟩, _⟩ := X8)
          | (go_at_call 24; refine (implValidPart_any _ _ _ _ _ _ _ X8.2 hn WB.out).mono ?_; rintro e w9 ⟨rfl, hb9⟩)))
        all_goals
          go_wp2_with fail
          go_meet
          exact ⟨rfl, (S7.drew.below hb8).below hb9, X8.below hb9⟩
      case rest =>
        obtain ⟨rfl, S9, X9⟩ := hcut
        clear S7 X7 c0 c1 p0 p1 i7
        obtain ⟨⟨_, c0, c1⟩, ⟨_, p0, p1⟩, i9, _⟩ := S9.pair
        obtain ⟨⟨_, x0, x1⟩, j9⟩ := X9.pair
        go_wp2_with fail
        go_region_with ((first
          | (go_at_call 17; refine (toSpace_any _ _ _ _ _ S9.drew.2.2.1 hn).mono ?_; rintro e w10 ⟨s10, rfl, own10, hb10⟩; have X10 := X9.drew.below hb10; have ⟨⟨_, y0, y1⟩, _⟩ := X10)
          | (go_at_call 19; refine (eqSpace_any _ _ _ _ _ _ _ _ _ X10.2 own10.ints hn).mono ?_; rintro e w11 ⟨rfl, hb11⟩)))
        all_goals
          go_wp2
          go_ret
          exact ⟨rfl, ((S9.drew.below hb10).below hb11).2.2.2⟩
end Go.Proofs.Ytdcipaioobkekaa
