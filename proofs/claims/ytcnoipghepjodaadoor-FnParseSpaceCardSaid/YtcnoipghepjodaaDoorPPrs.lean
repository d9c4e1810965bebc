/- The law of ParseSpace answers true at every code; its walk. -/
import Derived.Test.YtcnoipghepjodaaDoorTxtB
import Derived.Test.YtcnoipghepjodaaDoorDrawPt
import Derived.Test.YtcnoipghepjodaaDoorEqSp
import Derived.Test.YtcnoipghepjodaaDoorExPsp
namespace Go.Proofs.YtcnoipghepjodaaDoor
open Go.RowKit Go.Joins

theorem implPsp_was (s : ByteArray) (o : Option (Int × List Int)) (n : Int) (zs : List Int) (b : Bool) (w : World) (hs : s.size ≤ 1048576) (hg : GV w) (ho : parS s.data.toList = o) (hn : psN o = n) (hz : psZ o = zs) (hb : o.isSome = b) :
    Calls Tryd.prog 10 #[.string s] w fun e w' => ∃ a cap, e = .returned (.tuple #[.agg #[.int .i64 n, .slice a zs.length cap], .bool b]) ∧ Owns w' w.heap.size (.slice a zs.length cap) zs ∧ Below w.heap.size w w' := by
  subst hn hz hb
  refine (implParse_any s _ w hs hg ho).mono ?_
  rintro e w' ⟨h, hb⟩
  obtain ⟨a, cap, he, ho⟩ := h.form
  exact ⟨a, cap, he, ho, hb⟩
theorem specPsp_was (s : ByteArray) (o : Option (Int × List Int)) (n : Int) (zs : List Int) (b : Bool) (w : World) (hs : s.size ≤ 1048576) (ho : parS s.data.toList = o) (hn : psN o = n) (hz : psZ o = zs) (hb : o.isSome = b) :
    Calls Tryd.prog 13 #[.string s] w fun e w' => ∃ a cap, e = .returned (.tuple #[.agg #[.int .i64 n, .slice a zs.length cap], .bool b]) ∧ Owns w' w.heap.size (.slice a zs.length cap) zs ∧ Below w.heap.size w w' := by
  subst hn hz hb
  refine (specParse_any s _ w hs ho).mono ?_
  rintro e w' ⟨h, hb⟩
  obtain ⟨a, cap, he, ho⟩ := h.form
  exact ⟨a, cap, he, ho, hb⟩
theorem implVSq_was (n : Int) (a : Option Addr) (cap : Nat) (zs : List Int) (r : Bool) (w : World) (hi : Ints w a zs) (hn : zs.length ≤ 1048576) (h : vsB n zs = r) :
    Calls Tryd.prog 14 #[.agg #[.int .i64 n, .slice a zs.length cap]] w fun e w' => e = .returned (.bool r) ∧ Below w.heap.size w w' := by
  subst h
  exact implValidSpace_any n a cap zs w hi hn
set_option maxHeartbeats 4000000 in
set_option maxRecDepth 100000 in
theorem walk_FnParseSpace (a : Option Addr) (zs : List Nat) (cap : Nat) (w : World) (hi : Byts w a zs) (hl : zs.length ≤ maxLen) (hc : zs.length ≤ cap) (hg : GV w) :
    Calls Tryd.prog 4 #[.slice a zs.length cap] w fun e w' => e = .returned (.bool true) ∧ Below w.heap.size w w' := by
  by_cases h : 1048576 < zs.length
  · unfold maxLen at hl
    go_enter Tryd.func4, Tryd.ntmps4
    go_wp2
    go_ret
    exact ⟨rfl, Below.refl _ _⟩
  · have hl' : zs.length ≤ 1048576 := by omega
    clear h hl
    go_enter Tryd.func4, Tryd.ntmps4
    go_wp2_with fail
    refine (drawParseSpace_any _ _ _ _ hi hl' hc).mono ?_
    rintro e w1 ⟨s, rfl, hsz, hb⟩
    have hs : s.size ≤ 1048576 := by omega
    have HB := hide hb
    have HG := hide (hg.below hb)
    have hL := psZ_len s.data.toList
    obtain ⟨o, ho⟩ : ∃ o, parS s.data.toList = o := ⟨_, rfl⟩
    have HO := hide ho
    rw [ho] at hL
    obtain ⟨n, hn⟩ : ∃ n, psN o = n := ⟨_, rfl⟩
    obtain ⟨ss, hz⟩ : ∃ zs, psZ o = zs := ⟨_, rfl⟩
    obtain ⟨b, hbo⟩ : ∃ b, o.isSome = b := ⟨_, rfl⟩
    have HN := hide hn
    have HZ := hide hz
    have HBO := hide hbo
    rw [hz] at hL
    have HR : Hid (eqS n n ss ss = true) := eqS_refl n ss
    have hbb : (b != b) = false := by simp
    have hbe : (b == b) = true := by simp
    have HT : Hid (b = true → vsB n ss = true ∧ spcS n ss = s) := fun e => by
      subst hbo hn hz
      cases o with
      | none => cases e
      | some p => exact spc_back ho
    clear hb hi hl' hg ho hn hz hbo hsz
    go_wp2_with fail
    refine (implPsp_was _ _ _ _ _ _ hs HG.out HO.out HN.out HZ.out HBO.out).mono ?_
    rintro e w2 ⟨ag, cg, rfl, og, b2⟩
    have hx := bel1 w2 (.cells #[.int .i64 n, .slice ag ss.length cg] 25)
    have gb := Box.new w2 n ag ss.length cg 25
    have B2 := bnext b2 hx
    have ig := og.ints.below hx
    obtain ⟨W2, hW2⟩ : ∃ W : World, W = w2.alloc (.cells #[.int .i64 n, .slice ag ss.length cg] 25) := ⟨_, rfl⟩
    rw [← hW2] at B2 gb ig
    have hg2 : w2.heap.size < W2.heap.size := by rw [hW2]; simp
    obtain ⟨g, hgg⟩ : ∃ g, g = w2.heap.size := ⟨_, rfl⟩
    rw [← hgg] at gb hg2
    clear og b2 hx
    go_wp2_with fail
    rw [← hW2, ← hgg]
    clear hW2 hgg
    refine (specPsp_was _ _ _ _ _ _ hs HO.out HN.out HZ.out HBO.out).mono ?_
    rintro e w3 ⟨aw, cw, rfl, ow, b3⟩
    have hx := bel1 w3 (.cells #[.int .i64 n, .slice aw ss.length cw] 25)
    have bw := Box.new w3 n aw ss.length cw 25
    have b3x := bnext b3 hx
    have B3 := bnext B2 b3x
    have iw := ow.ints.below hx
    have ig3 := ig.below b3x
    have gb3 := gb.below b3x
    clear ow b3 hx ig gb B2 b3x
    have HB3 := hide B3
    have HIG := hide ig3
    have HIW := hide iw
    have HGB := hide gb3
    have HBW := hide bw
    clear B3
    obtain ⟨_, p0, p1⟩ := gb3.pair
    obtain ⟨_, q0, q1⟩ := bw.pair
    clear gb3 bw ig3 iw
    go_wp2_with fail
    refine (equalSpace_was _ _ _ _ _ _ _ _ _ true HIG.out HIW.out hL hL HR.out).mono ?_
    rintro e w4 ⟨rfl, b4⟩
    have HB4 := hide (bnext HB3.out b4)
    have HIG4 := hide (HIG.out.below b4)
    have HIW4 := hide (HIW.out.below b4)
    have HGB4 := hide (HGB.out.below b4)
    have HBW4 := hide (HBW.out.below b4)
    clear p0 p1 q0 q1 HB3 HIG HIW HGB HBW b4
    obtain ⟨_, p0, p1⟩ := HGB4.out.pair
    obtain ⟨_, q0, q1⟩ := HBW4.out.pair
    cases b with
    | false =>
      go_wp2_with fail
      refine (equalSpace_was _ _ _ _ _ _ _ _ _ true HIG4.out HIW4.out hL hL HR.out).mono ?_
      rintro e w5 ⟨rfl, b5⟩
      go_wp2
      go_ret
      exact ⟨rfl, bnext HB.out (bnext HB4.out b5)⟩
    | true =>
      go_wp2_with fail
      refine (implText_was _ _ _ _ _ _ HIG4.out hL (HT.out (by trivial)).2).mono ?_
      rintro e w5 ⟨rfl, b5⟩
      have HGB5 := hide (HGB4.out.below b5)
      clear p0 p1 q0 q1
      obtain ⟨_, p0, p1⟩ := HGB5.out.pair
      go_wp2_with fail
      refine (implVSq_was _ _ _ _ true _ (HIG4.out.below b5) hL (HT.out (by trivial)).1).mono ?_
      rintro e w6 ⟨rfl, b6⟩
      go_wp2
      go_ret
      exact ⟨rfl, bnext HB.out (bnext HB4.out (bnext b5 b6))⟩
end Go.Proofs.YtcnoipghepjodaaDoor
