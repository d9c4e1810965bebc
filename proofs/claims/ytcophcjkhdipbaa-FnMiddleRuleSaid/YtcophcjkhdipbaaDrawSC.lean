/- Draws of a space and votes, with the room in both rows. -/
import Derived.Test.YtcophcjkhdipbaaDrawT
namespace Go.Proofs.Ytcophcjkhdipbaa
open Go.RowKit Go.Joins

def DrawSV2Post (w : World) (e : Ending) (w' : World) : Prop :=
  ∃ (m : Int) (a : Option Addr) (zs : List Int) (cap : Nat) (l : Option Addr) (ls : List Int) (capl : Nat), e = .returned (.tuple #[.agg #[.int .i64 m, .slice a zs.length cap], .slice l ls.length capl]) ∧ Ints w' a zs ∧ zs.length ≤ 65 ∧ zs.length ≤ cap ∧ Ints w' l ls ∧ ls.length ≤ 10 ∧ ls.length ≤ capl ∧ Below w.heap.size w w'
set_option maxHeartbeats 4000000 in
set_option maxRecDepth 100000 in
theorem drawIsSettledCap_any (a : Option Addr) (cap : Nat) (zs : List Nat) (w : World) (hi : Byts w a zs) (hl : zs.length ≤ 1048576) (hc : zs.length ≤ cap) :
    Calls Try.prog 36 #[.slice a zs.length cap] w (DrawSV2Post w) := by
  have h0 := heap_alloc_new w (.cells #[.int .i64 0, .slice none 0 0] 27)
  have b0 := bel1 w (.cells #[.int .i64 0, .slice none 0 0] 27)
  have hi0 := hi.below b0
  have H0 := hide h0
  have HB0 := hide b0
  clear hi h0 b0
  go_enter Try.func36, Try.ntmps36
  go_wp2_with fail
  refine (newReader_any _ _ _ _ hi0 hl hc).mono ?_
  rintro e w1 ⟨R, rfl, hR, rd, B⟩
  have s1 := hide ((B.block w.heap.size (by simp)).trans H0.out)
  have B1 := hide (bnext HB0.out B)
  have hR' : w.heap.size + 1 ≤ R := by simpa using hR
  have HR := hide hR'
  have hlt := rd.lt
  clear hR hR' B hi0
  go_wp2_with fail
  refine (someVotes_any R 0 _ rd (by omega)).mono ?_
  rintro e w2 ⟨m, v, ss, u, ls, rfl, own, hsl, owu, hll, g, rd2⟩
  obtain ⟨av, cv, rfl, _, _⟩ := own.form
  obtain ⟨au, cu, rfl, _, _⟩ := owu.form
  have hcap := hide own.cap
  have hcapu := hide owu.cap
  have hRs := HR.out
  have s2 := hide ((g.block w.heap.size (lt_of_block s1.out) (by first | (simp; done) | (simp; omega))).trans s1.out)
  have q0 := cell_of_block s2.out 0
  have q1 := cell_of_block s2.out 1
  have k0 := unfrozen_of_block s2.out 0
  have k1 := unfrozen_of_block s2.out 1
  have B2 := hide (bgrown B1.out g B1.out.size (fun k hk => by cases hk; omega))
  have hO := hide ((own.set2 (g := w.heap.size) (by omega) (.int .i64 m) (.slice av ss.length cv)).ints)
  have hU := hide ((owu.set2 (g := w.heap.size) (by omega) (.int .i64 m) (.slice av ss.length cv)).ints)
  clear s1 B1 rd rd2 g own owu H0 HB0
  go_wp2_with fail
  refine bodyPost_ret (ret_cross rfl _ _ _ _ _ rfl (block_setCell (i := 1) (block_setCell (i := 0) s2.out _) _)) rfl ?_
  exact ⟨m, av, ss, cv, au, ls, cu, rfl, hO.out, hsl.1, hcap.out, hU.out, hll, hcapu.out, (B2.out.setCell (p := ⟨w.heap.size, 0, none⟩) (Nat.le_refl _) _).setCell (p := ⟨w.heap.size, 1, none⟩) (Nat.le_refl _) _⟩
set_option maxHeartbeats 4000000 in
set_option maxRecDepth 100000 in
theorem drawMiddleRuleCap_any (a : Option Addr) (cap : Nat) (zs : List Nat) (w : World) (hi : Byts w a zs) (hl : zs.length ≤ 1048576) (hc : zs.length ≤ cap) :
    Calls Try.prog 35 #[.slice a zs.length cap] w (DrawSV2Post w) := by
  have h0 := heap_alloc_new w (.cells #[.int .i64 0, .slice none 0 0] 27)
  have b0 := bel1 w (.cells #[.int .i64 0, .slice none 0 0] 27)
  have hi0 := hi.below b0
  have H0 := hide h0
  have HB0 := hide b0
  clear hi h0 b0
  go_enter Try.func35, Try.ntmps35
  go_wp2_with fail
  refine (newReader_any _ _ _ _ hi0 hl hc).mono ?_
  rintro e w1 ⟨R, rfl, hR, rd, B⟩
  have s1 := hide ((B.block w.heap.size (by simp)).trans H0.out)
  have B1 := hide (bnext HB0.out B)
  have hR' : w.heap.size + 1 ≤ R := by simpa using hR
  have HR := hide hR'
  have hlt := rd.lt
  clear hR hR' B hi0
  go_wp2_with fail
  refine (someVotes_any R 0 _ rd (by omega)).mono ?_
  rintro e w2 ⟨m, v, ss, u, ls, rfl, own, hsl, owu, hll, g, rd2⟩
  obtain ⟨av, cv, rfl, _, _⟩ := own.form
  obtain ⟨au, cu, rfl, _, _⟩ := owu.form
  have hcap := hide own.cap
  have hcapu := hide owu.cap
  have hRs := HR.out
  have s2 := hide ((g.block w.heap.size (lt_of_block s1.out) (by first | (simp; done) | (simp; omega))).trans s1.out)
  have q0 := cell_of_block s2.out 0
  have q1 := cell_of_block s2.out 1
  have k0 := unfrozen_of_block s2.out 0
  have k1 := unfrozen_of_block s2.out 1
  have B2 := hide (bgrown B1.out g B1.out.size (fun k hk => by cases hk; omega))
  have hO := hide ((own.set2 (g := w.heap.size) (by omega) (.int .i64 m) (.slice av ss.length cv)).ints)
  have hU := hide ((owu.set2 (g := w.heap.size) (by omega) (.int .i64 m) (.slice av ss.length cv)).ints)
  clear s1 B1 rd rd2 g own owu H0 HB0
  go_wp2_with fail
  refine bodyPost_ret (ret_cross rfl _ _ _ _ _ rfl (block_setCell (i := 1) (block_setCell (i := 0) s2.out _) _)) rfl ?_
  exact ⟨m, av, ss, cv, au, ls, cu, rfl, hO.out, hsl.1, hcap.out, hU.out, hll, hcapu.out, (B2.out.setCell (p := ⟨w.heap.size, 0, none⟩) (Nat.le_refl _) _).setCell (p := ⟨w.heap.size, 1, none⟩) (Nat.le_refl _) _⟩
end Go.Proofs.Ytcophcjkhdipbaa
