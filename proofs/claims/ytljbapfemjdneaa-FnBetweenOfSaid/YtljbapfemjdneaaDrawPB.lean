/- The draw of BetweenOf. -/
import Derived.Test.YtljbapfemjdneaaDrawP
namespace Go.Proofs.Ytljbapfemjdneaa
open Go.RowKit Go.Joins

/-- What a draw of a space and two numbers leaves. -/
def DrawSIIPost (w : World) (e : Ending) (w' : World) : Prop :=
  ∃ (m : Int) (a : Option Addr) (zs : List Int) (cap : Nat) (x y : Int), e = .returned (.tuple #[.agg #[.int .i64 m, .slice a zs.length cap], .int .i64 x, .int .i64 y]) ∧ Ints w' a zs ∧ zs.length ≤ 65 ∧ Below w.heap.size w w'
theorem DS.sii {R n B cap : Nat} {w wq : World} {x y : Value} {m z z' : Int} {a : Option Addr} {zs : List Int} (h : DS R w n x y B m a cap zs wq) (hl : zs.length ≤ 65) : DrawSIIPost w (.returned (.tuple #[.agg #[.int .i64 m, .slice a zs.length cap], .int .i64 z, .int .i64 z'])) wq :=
  ⟨m, a, zs, cap, z, z', rfl, h.ints, hl, h.bel⟩
set_option maxHeartbeats 4000000 in
set_option maxRecDepth 100000 in
theorem drawBetweenOf_any (a : Option Addr) (cap : Nat) (zs : List Nat) (w : World) (hi : Byts w a zs) (hl : zs.length ≤ 1048576) (hc : zs.length ≤ cap) :
    Calls Try.prog 32 #[.slice a zs.length cap] w (DrawSIIPost w) := by
  have h0 := heap_alloc_new w (.cells #[.int .i64 0, .slice none 0 0] 25)
  have b0 := bel1 w (.cells #[.int .i64 0, .slice none 0 0] 25)
  have hi0 := hi.below b0
  have H0 := hide h0
  have HB0 := hide b0
  clear hi h0 b0
  go_enter Try.func32, Try.ntmps32
  go_wp2_with fail
  refine (newReader_any _ _ _ _ hi0 hl hc).mono ?_
  rintro e w1 ⟨R, rfl, hR, rd, B⟩
  have s1 := hide ((B.block w.heap.size (by simp)).trans H0.out)
  have B1 := hide (bnext HB0.out B)
  have hR' : w.heap.size + 1 ≤ R := by simpa using hR
  have HR := hide hR'
  clear hR hR' B hi0
  go_wp2_with fail
  refine (someSpace_any R 0 _ rd (by omega)).mono ?_
  rintro e w2 ⟨m, v, ss, rfl, own, hsl, g, rd2⟩
  obtain ⟨av, cv, rfl, D2⟩ := DS.new (m := m) HR.out rd s1.out B1.out own g rd2
  have HSL := hide hsl
  clear s1 B1 rd rd2 g own hsl HR H0 HB0
  go_wp2_with fail
  generalize w2.alloc (.cells #[.int .i64 m, .slice av ss.length cv] 25) = W at D2 ⊢
  have D3 := hide D2.drew
  have c0 := cell_of_block D3.out.2.1 0
  have c1 := cell_of_block D3.out.2.1 1
  have f0 := unfrozen_of_block D3.out.1 0
  have f1 := unfrozen_of_block D3.out.1 1
  clear D2
  go_region_with (first | (go_at_call 67; refine (judgmentOf_any R _ m _ _ _ _ E5.out.rd (by omega) E5.out.ints HSL.out E5.out.ne).mono ?_; rintro e w6 ⟨x6, rfl, g6, rd6⟩; have E6 := hide (E5.out.pick g6 rd6); have u0 := cell_of_block E6.out.2.1 0; have u1 := cell_of_block E6.out.2.1 1; have v0 := cell_of_block E6.out.1 0; have v1 := cell_of_block E6.out.1 1; have y0 := unfrozen_of_block E6.out.1 0; have y1 := unfrozen_of_block E6.out.1 1; clear g6 rd6) | (go_at_call 67; refine (judgmentOf_any R _ m _ _ _ _ D3.out.rd (by omega) D3.out.ints HSL.out D3.out.ne).mono ?_; rintro e w5 ⟨x, rfl, g5, rd5⟩; have E5 := hide (D3.out.pick g5 rd5); have e0 := cell_of_block E5.out.2.1 0; have e1 := cell_of_block E5.out.2.1 1; have q0 := cell_of_block E5.out.1 0; have q1 := cell_of_block E5.out.1 1; have k0 := unfrozen_of_block E5.out.1 0; have k1 := unfrozen_of_block E5.out.1 1; clear g5 rd5))
  all_goals
    go_wp2_with fail
    refine bodyPost_ret (ret_cross3 rfl _ _ _ _ _ rfl E6.out.set2.1) rfl ?_
    exact E6.out.set2.sii HSL.out

end Go.Proofs.Ytljbapfemjdneaa
