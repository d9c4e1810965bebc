/- The law FnExactParseSpace answers true at every text: its walk. -/
import Derived.Test.YtcnoipghepjodaaDoorPrsK
import Derived.Test.YtcnoipghepjodaaDoorPrsT
import Derived.Test.YtcnoipghepjodaaDoorSpLaw
import Derived.Deep.RegionWith
namespace Go.Proofs.YtcnoipghepjodaaDoor
open Go.RowKit Go.Joins

def psN (o : Option (Int × List Int)) : Int := match o with | none => 0 | some p => p.1
def psZ (o : Option (Int × List Int)) : List Int := match o with | none => [] | some p => p.2
theorem PsE.form {o : Option (Int × List Int)} {w w' : World} {e : Ending} (h : PsE o w w' e) : ∃ a cap, e = .returned (.tuple #[.agg #[.int .i64 (psN o), .slice a (psZ o).length cap], .bool o.isSome]) ∧ Owns w' w.heap.size (.slice a (psZ o).length cap) (psZ o) := by
  rcases h with ⟨n, zs, a, cap, rfl, rfl, ho⟩ | ⟨rfl, rfl⟩
  · exact ⟨a, cap, rfl, ho⟩
  · exact ⟨none, 0, rfl, World.ownsRow_nil _ _ _ _⟩
theorem psZ_len (l : List UInt8) : (psZ (parS l)).length ≤ 1048576 := by
  cases h : parS l with
  | none => exact Nat.zero_le _
  | some p =>
    obtain ⟨n, zs⟩ := p
    have := valid_len (parS_iff.1 h).1
    show zs.length ≤ _
    omega
set_option maxHeartbeats 8000000 in
set_option maxRecDepth 100000 in
theorem walkParse_of (s : ByteArray) (w : World) (hg : GV w) (HSP : ∀ W : World, s.size ≤ 1048576 → Calls Tryd.prog 13 #[.string s] W fun e w' => PsE (parS s.data.toList) W w' e ∧ Below W.heap.size W w') :
    Calls Tryd.prog 6 #[.string s] w fun e w' => e = .returned (.bool true) ∧ Below w.heap.size w w' := by
  by_cases h : 1048576 < s.size
  · have h' : (1048576 : Int) < (s.size : Int) := by omega
    go_enter Tryd.func6, Tryd.ntmps6
    go_wp2
    go_ret
    exact ⟨rfl, Below.refl _ _⟩
  · have hs : s.size ≤ 1048576 := by omega
    have h' : ¬ (1048576 : Int) < (s.size : Int) := by omega
    have HS := hide (fun W => HSP W hs)
    have hL := psZ_len s.data.toList
    obtain ⟨o, ho⟩ : ∃ o, parS s.data.toList = o := ⟨_, rfl⟩
    rw [ho] at HS hL
    have HI := hide (fun W hg => implParse_any s o W hs hg ho)
    obtain ⟨n, hn⟩ : ∃ n, psN o = n := ⟨_, rfl⟩
    obtain ⟨zs, hz⟩ : ∃ zs, psZ o = zs := ⟨_, rfl⟩
    obtain ⟨b, hb⟩ : ∃ b, o.isSome = b := ⟨_, rfl⟩
    have HFO : Hid (∀ {w w' : World} {e : Ending}, PsE o w w' e → ∃ a cap, e = .returned (.tuple #[.agg #[.int .i64 n, .slice a zs.length cap], .bool b]) ∧ Owns w' w.heap.size (.slice a zs.length cap) zs) := fun h => by
      have := h.form
      rw [hn, hz, hb] at this
      exact this
    rw [hz] at hL
    have hbb : (b != b) = false := by simp
    clear h HSP ho hn hz hb
    go_enter Tryd.func6, Tryd.ntmps6
    go_wp2_with fail
    refine (HS.out _).mono ?_
    rintro e w1 ⟨hE, hb1⟩
    obtain ⟨aw, cw, rfl, ow⟩ := HFO.out hE
    have bw := Box.new w1 n aw zs.length cw 25
    have hx1 := bel1 w1 (.cells #[.int .i64 n, .slice aw zs.length cw] 25)
    have iw := ow.ints.below hx1
    have B1 := bnext hb1 hx1
    obtain ⟨WB, hWB⟩ : ∃ WB : World, WB = w1.alloc (.cells #[.int .i64 n, .slice aw zs.length cw] 25) := ⟨_, rfl⟩
    obtain ⟨gw, hgw⟩ : ∃ gw, gw = w1.heap.size := ⟨_, rfl⟩
    clear hE ow hb1 hx1
    rw [← hWB] at iw B1 bw
    rw [← hgw] at bw
    go_wp2_with fail
    rw [← hWB, ← hgw]
    clear hWB hgw
    refine (HI.out _ (hg.below B1)).mono ?_
    rintro e w2 ⟨hE, hb2⟩
    obtain ⟨ag, cg, rfl, og⟩ := HFO.out hE
    have hx2 := bel1 w2 (.cells #[.int .i64 n, .slice ag zs.length cg] 25)
    have gb := Box.new w2 n ag zs.length cg 25
    have og2 := og.below hx2
    have B2 := bnext hb2 hx2
    have bw2 := bw.below B2
    have hgl : ∀ k, (Value.slice ag zs.length cg).ownBlock = some k → k < w2.heap.size := fun k hk => own_lt og k hk
    clear hE og hb2 hx2
    obtain ⟨_, p0, p1⟩ := gb.pair
    obtain ⟨_, q0, q1⟩ := bw2.pair
    go_wp2_with fail
    refine (eqSpace_yes _ _ _ _ _ _ _ og2.ints (iw.below B2) hL).mono ?_
    rintro e w3 ⟨rfl, hb3⟩
    have B3 := bnext B2 hb3
    have og3 := og2.below hb3
    have gb3 := gb.below hb3
    clear p0 p1 q0 q1 og2 gb bw2 B2 hb3
    obtain ⟨_, p0, p1⟩ := gb3.pair
    go_wp2_with fail
    refine (markSpaceO_any _ _ _ _ _ _ _ og3 hL (by omega) (by omega)).mono ?_
    rintro e w4 ⟨rfl, og4, hg4⟩
    have gb4 := gb3.kept hg4 (fun k hk => by have := hgl k hk; omega)
    have B4 := bgrown B3 hg4 B3.size (fun k hk => own_ge og3 k hk)
    clear B3 og3 hg4 gb3 p0 p1
    obtain ⟨_, p0, p1⟩ := gb4.pair
    go_wp2_with fail
    refine (heldSpace_yes _ _ _ _ _ _ og4.ints hL (by omega) (by omega)).mono ?_
    rintro e w5 ⟨rfl, hb5⟩
    have B5 := bnext B4 hb5
    have og5 := og4.below hb5
    have gb5 := gb4.below hb5
    clear B4 og4 hb5 gb4 p0 p1
    go_wp2_with fail
    refine (HI.out _ (hg.below (B1.trans (B5.mono B1.size)))).mono ?_
    rintro e w6 ⟨hE, hb6⟩
    obtain ⟨ah, ch, rfl, oh⟩ := HFO.out hE
    have hx6 := bel1 w6 (.cells #[.int .i64 n, .slice ah zs.length ch] 25)
    have hbx := Box.new w6 n ah zs.length ch 25
    have hb66 := bnext hb6 hx6
    have ih := oh.ints.below hx6
    have B6 := bnext B5 hb66
    have og6 := og5.below hb66
    have gb6 := gb5.below hb66
    have bw6 := bw.below B6
    clear hE oh hb6 hx6 hb66 B5 og5 gb5
    obtain ⟨_, p0, p1⟩ := hbx.pair
    obtain ⟨_, q0, q1⟩ := bw6.pair
    go_wp2_with fail
    refine (eqSpace_yes _ _ _ _ _ _ _ ih (iw.below B6) hL).mono ?_
    rintro e w7 ⟨rfl, hb7⟩
    have B7 := bnext B6 hb7
    have og7 := og6.below hb7
    have gb7 := gb6.below hb7
    clear B6 og6 hb7 ih gb6 p0 p1 q0 q1 hbx bw6
    obtain ⟨_, p0, p1⟩ := gb7.pair
    go_wp2_with fail
    refine (heldSpace_yes _ _ _ _ _ _ og7.ints hL (by omega) (by omega)).mono ?_
    rintro e w8 ⟨rfl, hb8⟩
    go_wp2
    go_ret
    exact ⟨rfl, B1.trans ((bnext B7 hb8).mono B1.size)⟩
end Go.Proofs.YtcnoipghepjodaaDoor
