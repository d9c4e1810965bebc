/- The draw of NearestTo. -/
import Derived.Test.YtljbapfemjdneaaDrawP
namespace Go.Proofs.Ytljbapfemjdneaa
open Go.RowKit Go.Joins

set_option maxHeartbeats 4000000 in
set_option maxRecDepth 100000 in
theorem drawNearestTo_any (a : Option Addr) (cap : Nat) (zs : List Nat) (w : World) (hi : Byts w a zs) (hl : zs.length ≤ 1048576) (hc : zs.length ≤ cap) :
    Calls Try.prog 37 #[.slice a zs.length cap] w (DrawSIPost w) := by
  have h0 := heap_alloc_new w (.cells #[.int .i64 0, .slice none 0 0] 25)
  have b0 := bel1 w (.cells #[.int .i64 0, .slice none 0 0] 25)
  have hi0 := hi.below b0
  have H0 := hide h0
  have HB0 := hide b0
  clear hi h0 b0
  go_enter Try.func37, Try.ntmps37
  go_wp2_with fail
  refine (newReader_any _ _ _ _ hi0 hl hc).mono ?_
  rintro e w1 ⟨R, rfl, hR, rd, B⟩
  have s1 := hide ((B.block w.heap.size (by simp)).trans H0.out)
  have B1 := hide (bnext HB0.out B)
  have hR' : w.heap.size + 1 ≤ R := by simpa using hR
  have HR := hide hR'
  clear hR hR' B hi0
  go_wp2_with fail
  refine (someSpace_any R 0 _ rd (by omega)).mono ?_
  rintro e w2 ⟨m, v, ss, rfl, own, hsl, g, rd2⟩
  obtain ⟨av, cv, rfl, D2⟩ := DS.new (m := m) HR.out rd s1.out B1.out own g rd2
  have HSL := hide hsl
  clear s1 B1 rd rd2 g own hsl HR H0 HB0
  go_wp2_with fail
  generalize w2.alloc (.cells #[.int .i64 m, .slice av ss.length cv] 25) = W at D2 ⊢
  have D3 := hide D2.drew
  have c0 := cell_of_block D3.out.2.1 0
  have c1 := cell_of_block D3.out.2.1 1
  have f0 := unfrozen_of_block D3.out.1 0
  have f1 := unfrozen_of_block D3.out.1 1
  clear D2
  go_region_with ((go_at_call 66; refine (anyPoint_any R 44 m _ _ D3.out.rd (by omega)).mono ?_; rintro e w5 ⟨x, rfl, _, g5, rd5⟩; have E5 := hide (D3.out.pick g5 rd5); have e0 := cell_of_block E5.out.2.1 0; have e1 := cell_of_block E5.out.2.1 1; have q0 := cell_of_block E5.out.1 0; have q1 := cell_of_block E5.out.1 1; have k0 := unfrozen_of_block E5.out.1 0; have k1 := unfrozen_of_block E5.out.1 1; clear g5 rd5))
  all_goals
    go_wp2_with fail
    refine bodyPost_ret (ret_cross rfl _ _ _ _ _ rfl E5.out.set2.1) rfl ?_
    exact E5.out.set2.si HSL.out

end Go.Proofs.Ytljbapfemjdneaa
