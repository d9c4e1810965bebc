/- The draws of DropIssue and FlipIssue: a space and an issue. -/
import Derived.Test.YtbnnblfgpdfmpaaDrawL
namespace Go.Proofs.Ytbnnblfgpdfmpaa
open Go.RowKit Go.Joins

/-- What a draw of a space and an issue leaves. -/
def DrawDIPost (w : World) (e : Ending) (w' : World) : Prop :=
  ∃ (m : Int) (a : Option Addr) (zs : List Int) (cap : Nat) (x : Int), e = .returned (.tuple #[.agg #[.int .i64 m, .slice a zs.length cap], .int .i64 x]) ∧ Ints w' a zs ∧ zs.length ≤ 65 ∧ zs.length ≤ cap ∧ (∀ b o s, a = some ⟨b, o, s⟩ → w.heap.size < b) ∧ Below w.heap.size w w'
theorem DS.di {R n B cap : Nat} {w wq : World} {x y : Value} {m z : Int} {a : Option Addr} {zs : List Int} (h : DS R w n x y B m a cap zs wq) (hl : zs.length ≤ 65) (hc : zs.length ≤ cap) : DrawDIPost w (.returned (.tuple #[.agg #[.int .i64 m, .slice a zs.length cap], .int .i64 z])) wq :=
  ⟨m, a, zs, cap, z, rfl, h.ints, hl, hc, fun b o s e => by have h1 := h.2.2.2.1 b o s e; have h2 := h.2.2.2.2.2.2.1; omega, h.bel⟩
set_option maxHeartbeats 4000000 in
set_option maxRecDepth 100000 in
theorem drawDropIssue_any (a : Option Addr) (cap : Nat) (zs : List Nat) (w : World) (hi : Byts w a zs) (hl : zs.length ≤ 1048576) (hc : zs.length ≤ cap) :
    Calls Try.prog 25 #[.slice a zs.length cap] w (DrawDIPost w) := by
  have h0 := heap_alloc_new w (.cells #[.int .i64 0, .slice none 0 0] 26)
  have b0 := bel1 w (.cells #[.int .i64 0, .slice none 0 0] 26)
  have hi0 := hi.below b0
  have H0 := hide h0
  have HB0 := hide b0
  clear hi h0 b0
  go_enter Try.func25, Try.ntmps25
  go_wp2_with fail
  refine (newReader_any _ _ _ _ hi0 hl hc).mono ?_
  rintro e w1 ⟨R, rfl, hR, rd, B⟩
  have s1 := hide ((B.block w.heap.size (by simp)).trans H0.out)
  have B1 := hide (bnext HB0.out B)
  have hR' : w.heap.size + 1 ≤ R := by simpa using hR
  have HR := hide hR'
  clear hR hR' B hi0
  go_wp2_with fail
  refine (someSpace_any R 0 _ rd (by omega)).mono ?_
  rintro e w2 ⟨m, v, ss, rfl, own, hsl, g, rd2⟩
  obtain ⟨av, cv, rfl, D2⟩ := DS.new (m := m) HR.out rd s1.out B1.out own g rd2
  have HSL := hide hsl
  have HCP := hide own.cap
  have c0' := cell_of_block D2.2.1 0
  clear s1 B1 rd rd2 g own hsl HR H0 HB0
  go_wp2_with fail
  generalize w2.alloc (.cells #[.int .i64 m, .slice av ss.length cv] 26) = W at D2 ⊢
  clear c0'
  have D3 := hide D2.drew
  have c0 := cell_of_block D3.out.2.1 0
  have c1 := cell_of_block D3.out.2.1 1
  have f0 := unfrozen_of_block D3.out.1 0
  have f1 := unfrozen_of_block D3.out.1 1
  have D4 := hide ((D2.below (bel1 W (.cells #[.int .i64 0, .int .i64 1, .int .i64 2, .int .i64 3, .int .i64 (-1)] 3))).drew)
  have l4 : Hid (Ints (W.alloc (.cells #[.int .i64 0, .int .i64 1, .int .i64 2, .int .i64 3, .int .i64 (-1)] 3)).drew (some ⟨W.heap.size, 0, none⟩) [0, 1, 2, 3, -1]) := (lit5d W 0 1 2 3 (-1)).below (bdrew' (Below.refl _ _))
  have hRW : Hid (R < W.heap.size) := D2.rd.lt
  have d0 := cell_of_block D4.out.2.1 0
  have d1 := cell_of_block D4.out.2.1 1
  clear D2
  go_region_with ((go_at_call 58; refine (one_any R _ 5 _ _ _ D4.out.rd (by omega) l4.out (by simp) (by simp) (fun b o s e => by cases e; have := hRW.out; omega)).mono ?_; rintro e w5 ⟨x, _, rfl, g5, rd5⟩; have E5 := hide (D4.out.pick g5 rd5); have e0 := cell_of_block E5.out.2.1 0; have e1 := cell_of_block E5.out.2.1 1; have q0 := cell_of_block E5.out.1 0; have q1 := cell_of_block E5.out.1 1; have k0 := unfrozen_of_block E5.out.1 0; have k1 := unfrozen_of_block E5.out.1 1; clear g5 rd5))
  all_goals
    go_wp2_with fail
    refine bodyPost_ret (ret_cross rfl _ _ _ _ _ rfl E5.out.set2.1) rfl ?_
    exact E5.out.set2.di HSL.out.1 HCP.out
set_option maxHeartbeats 1000000 in
set_option maxRecDepth 100000 in
theorem drawFlipIssue_any (a : Option Addr) (cap : Nat) (zs : List Nat) (w : World) (hi : Byts w a zs) (hl : zs.length ≤ 1048576) (hc : zs.length ≤ cap) :
    Calls Try.prog 20 #[.slice a zs.length cap] w (DrawDIPost w) := by
  have h0 := heap_alloc_new w (.cells #[.int .i64 0, .slice none 0 0] 26)
  have b0 := bel1 w (.cells #[.int .i64 0, .slice none 0 0] 26)
  have hi0 := hi.below b0
  have H0 := hide h0
  have HB0 := hide b0
  clear hi h0 b0
  go_enter Try.func20, Try.ntmps20
  go_wp2_with fail
  refine (drawDropIssue_any _ _ _ _ hi0 hl hc).mono ?_
  rintro e w1 ⟨m, av, ss, cv, x, rfl, iv, hsl, hcp, hge, B⟩
  have s1 := (B.block w.heap.size (by simp)).trans H0.out
  have f0 := unfrozen_of_block s1 0
  have f1 := unfrozen_of_block s1 1
  have r0 := cell_of_block s1 0
  have r1 := cell_of_block s1 1
  have S1 := hide s1
  have B1 := hide (bnext HB0.out B)
  have IV := hide iv
  have NE : Hid (∀ b o s, av = some ⟨b, o, s⟩ → w.heap.size < b) := fun b o s e => by have := hge b o s e; simp only [World.size_alloc] at this; omega
  clear s1 B iv hge
  go_wp2_with fail
  refine bodyPost_ret (ret_cross rfl _ _ _ _ _ rfl (block_setCell (i := 1) (block_setCell (i := 0) S1.out _) _)) rfl ?_
  refine ⟨m, av, ss, cv, x, rfl, ?_, hsl, hcp, NE.out, (B1.out.setCell (p := ⟨w.heap.size, 0, none⟩) (Nat.le_refl _) _).setCell (p := ⟨w.heap.size, 1, none⟩) (Nat.le_refl _) _⟩
  exact ((IV.out.other (gset w1 w.heap.size 0 _) (fun b o s e e' => by have h1 := NE.out b o s e; have h2 : w.heap.size = b := (by simpa using e'); omega)).other (gset _ w.heap.size 1 _) (fun b o s e e' => by have h1 := NE.out b o s e; have h2 : w.heap.size = b := (by simpa using e'); omega))
end Go.Proofs.Ytbnnblfgpdfmpaa
