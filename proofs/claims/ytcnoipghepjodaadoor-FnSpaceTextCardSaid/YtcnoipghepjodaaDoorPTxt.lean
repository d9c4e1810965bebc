/- The law of SpaceText answers true at every code; its walk. -/
import Derived.Test.YtcnoipghepjodaaDoorTxtB
import Derived.Test.YtcnoipghepjodaaDoorDrawC
import Derived.Test.YtcnoipghepjodaaDoorEqSp
import Derived.Test.YtcnoipghepjodaaDoorExParseSpace
namespace Go.Proofs.YtcnoipghepjodaaDoor
open Go.RowKit Go.Joins

theorem back_was (s : ByteArray) (n : Int) (zs : List Int) (w : World) (hs : s.size ≤ 1048576) (hg : GV w) (ho : parS s.data.toList = some (n, zs)) :
    Calls Tryd.prog 10 #[.string s] w fun e w' => ∃ a cap, e = .returned (.tuple #[.agg #[.int .i64 n, .slice a zs.length cap], .bool true]) ∧ Owns w' w.heap.size (.slice a zs.length cap) zs ∧ Below w.heap.size w w' := by
  refine (implParse_any s _ w hs hg ho).mono ?_
  rintro e w' ⟨h, hb⟩
  obtain ⟨a, cap, he, ho⟩ := h.form
  exact ⟨a, cap, he, ho, hb⟩
set_option maxHeartbeats 4000000 in
set_option maxRecDepth 100000 in
theorem walk_FnSpaceText (a : Option Addr) (zs : List Nat) (cap : Nat) (w : World) (hi : Byts w a zs) (hl : zs.length ≤ maxLen) (hc : zs.length ≤ cap) (hg : GV w) :
    Calls Tryd.prog 3 #[.slice a zs.length cap] w fun e w' => e = .returned (.bool true) ∧ Below w.heap.size w w' := by
  by_cases h : 1048576 < zs.length
  · unfold maxLen at hl
    go_enter Tryd.func3, Tryd.ntmps3
    go_wp2
    go_ret
    exact ⟨rfl, Below.refl _ _⟩
  · have hl' : zs.length ≤ 1048576 := by omega
    clear h hl
    go_enter Tryd.func3, Tryd.ntmps3
    go_wp2_with fail
    refine (drawSpaceText_any _ _ _ _ hi hl' hc).mono ?_
    rintro e w1 ⟨m, av, ss, cv, rfl, iv, hsl, hcv, hb⟩
    have S0 := SV.new w1 m av ss cv none [] 25 iv (Ints.nil _ _)
    have HB := hide hb
    have HG := hide (hg.below hb)
    have hn : ss.length ≤ 1048576 := by omega
    clear hb hi iv hl' hcv hg
    obtain ⟨⟨_, c0, c1⟩, _⟩ := S0.pair
    obtain ⟨T, hT⟩ : ∃ T, spcS m ss = T := ⟨_, rfl⟩
    have HT := hide hT
    have HZ := hide (hT ▸ spc_size m ss : T.size ≤ 1000)
    cases hv : vsB m ss with
    | false =>
      have e0 : T = ⟨#[]⟩ := hT.symm.trans (spc_none hv)
      subst e0
      clear hT hv
      go_wp2_with fail
      refine (implText_was _ _ _ _ _ _ S0.2.1 hn HT.out).mono ?_
      rintro e w2 ⟨rfl, b2⟩
      have S2 := S0.below b2
      clear c0 c1 S0 b2
      obtain ⟨⟨_, c0, c1⟩, _⟩ := S2.pair
      go_wp2_with fail
      refine (specText_was _ _ _ _ _ _ S2.2.1 hn HT.out).mono ?_
      rintro e w3 ⟨rfl, b3⟩
      have S3 := S2.below b3
      clear c0 c1 S2 b3
      obtain ⟨⟨_, c0, c1⟩, _⟩ := S3.pair
      go_wp2_with fail
      refine (specText_was _ _ _ _ _ _ S3.2.1 hn HT.out).mono ?_
      rintro e w4 ⟨rfl, b4⟩
      have S4 := S3.below b4
      go_wp2
      go_ret
      exact ⟨rfl, bnext HB.out S4.2.2.2⟩
    | true =>
      have ht0 : T ≠ (⟨#[]⟩ : ByteArray) := hT ▸ spc_some hv
      have ht1 : T.toList.isEmpty = false := (decide_eq_emptyBytes T).symm.trans (decide_eq_false ht0)
      have HP : Hid (parS T.data.toList = some (m, ss)) := hT ▸ spc_par hv
      have HR : Hid (eqS m m ss ss = true) := eqS_refl m ss
      clear hT hv
      go_wp2_with fail
      refine (implText_was _ _ _ _ _ _ S0.2.1 hn HT.out).mono ?_
      rintro e w2 ⟨rfl, b2⟩
      have S2 := S0.below b2
      clear c0 c1 S0 b2
      obtain ⟨⟨_, c0, c1⟩, _⟩ := S2.pair
      go_wp2_with fail
      refine (specText_was _ _ _ _ _ _ S2.2.1 hn HT.out).mono ?_
      rintro e w3 ⟨rfl, b3⟩
      have S3 := S2.below b3
      clear c0 c1 S2 b3
      go_wp2_with fail
      refine (back_was _ _ _ _ (by have := HZ.out; omega) (HG.out.below S3.2.2.2) HP.out).mono ?_
      rintro e w4 ⟨ag, cg, rfl, og, b4⟩
      have hx := bel1 w4 (.cells #[.int .i64 m, .slice ag ss.length cg] 25)
      have gb := Box.new w4 m ag ss.length cg 25
      have ig := og.ints.below hx
      have S4 := (S3.below b4).below hx
      have HS4 := hide S4
      clear og b4 hx S3
      obtain ⟨⟨_, c0, c1⟩, _⟩ := S4.pair
      obtain ⟨_, p0, p1⟩ := gb.pair
      go_wp2_with fail
      refine (equalSpace_was _ _ _ _ _ _ _ _ _ true ig HS4.out.2.1 hn hn HR.out).mono ?_
      rintro e w5 ⟨rfl, b5⟩
      have S5 := HS4.out.below b5
      go_wp2
      go_ret
      exact ⟨rfl, bnext HB.out S5.2.2.2⟩
end Go.Proofs.YtcnoipghepjodaaDoor
