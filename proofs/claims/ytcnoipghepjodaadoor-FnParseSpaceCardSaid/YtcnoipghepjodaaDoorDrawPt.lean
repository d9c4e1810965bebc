/- The model's draw of a text: a space's text, changed somewhere or not. -/
import Derived.Test.YtcnoipghepjodaaDoorMutT
namespace Go.Proofs.YtcnoipghepjodaaDoor
open Go.RowKit Go.Joins

/-- What the draw of a text leaves. -/
def DrawPtPost (w : World) (e : Ending) (w' : World) : Prop :=
  ∃ x : ByteArray, e = .returned (.string x) ∧ x.size ≤ 100000 ∧ Below w.heap.size w w'
set_option maxHeartbeats 4000000 in
set_option maxRecDepth 100000 in
theorem drawParseSpace_any (a : Option Addr) (cap : Nat) (zs : List Nat) (w : World) (hi : Byts w a zs) (hl : zs.length ≤ 1048576) (hc : zs.length ≤ cap) :
    Calls Tryd.prog 12 #[.slice a zs.length cap] w (DrawPtPost w) := by
  go_enter Tryd.func12, Tryd.ntmps12
  go_wp2_with fail
  refine (newReader_any _ _ _ _ hi hl hc).mono ?_
  rintro e w1 ⟨R, rfl, hR, rd, B1⟩
  have HB1 := hide B1
  clear hi B1
  go_wp2_with fail
  refine (goodSpace_any R 0 _ rd (by omega)).mono ?_
  rintro e w2 ⟨m, v, ss, rfl, own, hsl, g2, rd2⟩
  obtain ⟨av, cv, rfl, iv, _⟩ := own.form
  have B2 := hide (bgrown HB1.out g2 HB1.out.size (fun k hk => by cases hk; exact hR))
  obtain ⟨T, hT⟩ : ∃ T, spcS m ss = T := ⟨_, rfl⟩
  have hsz : T.size ≤ 1000 := hT ▸ spc_size m ss
  clear own g2 rd HB1
  go_wp2_with fail
  refine (specText_was _ _ _ _ _ _ iv (by omega) hT).mono ?_
  rintro e w3 ⟨rfl, b3⟩
  have B3 := hide (bnext B2.out b3)
  have rd3 := rd2.below b3
  clear iv b3 B2 rd2 hT
  go_wp2_with fail
  refine (pick_any R _ _ _ rd3 (by omega) ⟨by omega, by omega⟩).mono ?_
  rintro e w4 ⟨c, rfl, hc0, hcl, _, g4, rd4⟩
  have B4 := hide (bgrown B3.out g4 B3.out.size (fun k hk => by cases hk; exact hR))
  clear g4 rd3 B3 hcl
  by_cases h0 : c = 0
  · subst h0
    go_wp2_with fail
    refine (mutate_any R _ T _ rd4 (by omega) hsz).mono ?_
    rintro e w5 ⟨x, rfl, hx, g5, rd5⟩
    have B5 := hide (bgrown B4.out g5 B4.out.size (fun k hk => by cases hk; exact hR))
    clear g5 rd5
    go_wp2
    go_ret
    exact ⟨_, rfl, hx, B5.out⟩
  · have h0 : (c == 0) = false := by simpa using h0
    go_wp2
    go_ret
    exact ⟨_, rfl, by omega, B4.out⟩
end Go.Proofs.YtcnoipghepjodaaDoor
