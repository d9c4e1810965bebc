/- The draw of EvenClosure: a space, often cut short. -/
import Derived.Test.YtklfpbidbiippaaDrawC
import Derived.Test.YtklfpbidbiippaaDrawL
import Derived.Deep.RegionWith
import Derived.IntWalk
namespace Go.Proofs.Ytklfpbidbiippaa
open Go.RowKit Go.Joins

theorem Ints.take {w : World} {a : Option Addr} {zs : List Int} (h : Ints w a zs) (k : Nat) : Ints w a (zs.take k) := fun hz => by
  rw [List.length_take] at hz
  obtain ⟨b, off, e, hlt, hc⟩ := h (by omega)
  refine ⟨b, off, e, hlt, fun j hj => ?_⟩
  rw [List.length_take] at hj
  rw [hc j (by omega), List.getD_eq_getElem?_getD, List.getD_eq_getElem?_getD, List.getElem?_take, if_pos (by omega)]
/-- the space drawn, handed on -/
theorem DS.cc {R n B cap k : Nat} {w wq : World} {x y : Value} {m : Int} {a : Option Addr} {zs : List Int} (h : DS R w n x y B m a cap zs wq) (hl : zs.length ≤ 65) (hc : zs.length ≤ cap) (u v : Value) :
    DrawCPost w (.returned (.agg #[.int .i64 m, .slice a (zs.take k).length cap])) ((wq.setCell ⟨w.heap.size, 0, none⟩ u).setCell ⟨w.heap.size, 1, none⟩ v) := by
  obtain ⟨h1, h2, h3, h4, h5, h6, h7, h8⟩ := h
  refine ⟨m, a, zs.take k, cap, rfl, ((h3.take k).other (gset wq _ 0 _) ?_).other (gset _ _ 1 _) ?_, by rw [List.length_take]; omega, by rw [List.length_take]; omega, (h5.setCell (p := ⟨w.heap.size, 0, none⟩) (Nat.le_refl _) _).setCell (p := ⟨w.heap.size, 1, none⟩) (Nat.le_refl _) _⟩
  all_goals
    intro b o s e e'
    have h4' := h4 b o s e
    have : w.heap.size = b := by simpa using e'
    omega
/-- the list cut -/
theorem DS.cut {R n B cap k l : Nat} {w wq : World} {x y : Value} {m : Int} {a : Option Addr} {zs : List Int} (h : DS R w n x y B m a cap zs wq) (h2l : 2 ≤ zs.length) (hl : (zs.take k).length = l) : DS R w n x y B m a cap (zs.take k) (wq.setCell ⟨B, 1, none⟩ (.slice a l cap)) := by
  subst hl
  obtain ⟨h1, h2, h3, h4, h5, h6, h7, h8⟩ := h
  have hne : ∀ b o s, a = some ⟨b, o, s⟩ → b ≠ B := fun b o s e hb => by
    obtain ⟨b', off, e', _, hc⟩ := h3 (by omega)
    rw [e] at e'
    cases e'
    subst hb
    have q0 := hc 0 (by omega)
    have q1 := hc 1 (by omega)
    rcases (show o = 0 ∨ o = 1 ∨ 2 ≤ o from by omega) with rfl | rfl | h
    · rw [cell_of_block h2 1] at q1
      simp at q1
    · rw [cell_of_block h2 1] at q0
      simp at q0
    · rw [Nat.add_zero, cell_of_block h2 o] at q0
      match o, h with
      | o + 2, _ => simp at q0
  refine ⟨(Below.heap_setCell _ _ _ _ (by show w.heap.size ≠ B; omega)).trans h1, block_setCell (i := 1) h2 _, (h3.take k).other (gset wq B 1 _) (fun b o s e e' => hne b o s e (by simpa using e'.symm)), h4, h5.setCell (p := ⟨B, 1, none⟩) (by show w.heap.size ≤ B; omega) _, h6.set h8, h7, h8⟩

set_option maxHeartbeats 4000000 in
set_option maxRecDepth 100000 in
theorem drawEvenClosure_any (a : Option Addr) (cap : Nat) (zs : List Nat) (w : World) (hi : Byts w a zs) (hl : zs.length ≤ 1048576) (hc : zs.length ≤ cap) :
    Calls Try.prog 19 #[.slice a zs.length cap] w (DrawCPost w) := by
  have h0 := heap_alloc_new w (.cells #[.int .i64 0, .slice none 0 0] 25)
  have b0 := bel1 w (.cells #[.int .i64 0, .slice none 0 0] 25)
  have hi1 := hi.below b0
  have H0 := hide h0
  have HB0 := hide b0
  clear hi h0 b0
  go_enter Try.func19, Try.ntmps19
  go_wp2_with fail
  refine (newReader_any _ _ _ _ hi1 hl hc).mono ?_
  rintro e w1 ⟨R, rfl, hR, rd, B⟩
  have s1 := hide ((B.block w.heap.size (by simp)).trans H0.out)
  have B1 := hide (bnext HB0.out B)
  have hR1 : w.heap.size + 1 ≤ R := by simpa using hR
  have HR := hide hR1
  have RD1 := hide rd
  clear hR hR1 B hi1 H0 HB0
  go_wp2_with fail
  refine (someSpace_any R 0 _ rd (by omega)).mono ?_
  rintro e w2 ⟨m, v, ss, rfl, own, hsl, g, rd2⟩
  obtain ⟨av, cv, rfl, D2⟩ := DS.new (m := m) HR.out RD1.out s1.out B1.out own g rd2
  have HC := hide own.cap
  have HSL := hide hsl.1
  have hlt2 := hide (lt_of_block s1.out)
  have hwB : w.heap.size < w2.heap.size := Nat.lt_of_lt_of_le hlt2.out g.size
  obtain ⟨W, hW⟩ : ∃ W : World, W = w2.alloc (.cells #[.int .i64 m, .slice av ss.length cv] 25) := ⟨_, rfl⟩
  obtain ⟨G, hG⟩ : ∃ G, G = w2.heap.size := ⟨_, rfl⟩
  rw [← hW, ← hG] at D2
  rw [← hG] at hwB
  have c0 := cell_of_block D2.2.1 0
  have c1 := cell_of_block D2.2.1 1
  have HD := hide D2
  clear rd own g rd2 hsl s1 B1 D2
  go_upto_region 3 with fail
  rw [← hW, ← hG]
  clear hW hG
  by_cases h3 : 3 < ss.length
  · go_wp2_with fail
    refine (pick_any R _ _ _ HD.out.rd (by omega) ⟨by omega, by omega⟩).mono ?_
    rintro e w3 ⟨p, rfl, hp0, hp1, _, g, rd⟩
    have D3 := hide (HD.out.pick g rd)
    clear g rd c0 c1 hp1
    have c0 := cell_of_block D3.out.2.1 0
    have c1 := cell_of_block D3.out.2.1 1
    by_cases hp : (p == 0) = true
    · have k1 := unfrozen_of_block D3.out.2.1 1
      go_wp2_with fail
      go_region_with ((go_at_call 84; go_loud (refine (pick_any R _ _ _ D3.out.drew.rd (by omega) ⟨by omega, by omega⟩).mono ?_; rintro e w5 ⟨q, rfl, hq0, hq1, _, g5, rd5⟩; have D5 := hide (D3.out.drew.pick g5 rd5); have hq2 := hq1 (by omega); obtain ⟨qn, rfl⟩ := Int.eq_ofNat_of_zero_le hq0; have hqn : qn ≤ 1 := (by omega); have hcv : (2 : Int) + (qn : Int) ≤ (cv : Int) := (by have := HC.out; omega); have hwr : IntKind.i64.wrap ((2 : Int) + (qn : Int)) = 2 + (qn : Int) := IntWalk.i64_in _ (by omega); have h02 : (0 : Int) ≤ 2 + (qn : Int) := (by omega); have htn : ((2 : Int) + (qn : Int)).toNat = 2 + qn := (by omega); clear hq0 hq2; have e0 := cell_of_block D5.out.2.1 0; have e1 := cell_of_block D5.out.2.1 1; have f1 := unfrozen_of_block D5.out.2.1 1; clear g5 rd5 hq1)))
      all_goals
        have hln : (ss.take (2 + qn)).length = 2 + qn := by rw [List.length_take]; omega
        have D6 := hide (D5.out.cut (k := 2 + qn) (by omega) hln)
        have f0 := unfrozen_of_block D6.out.1 0
        have f1 := unfrozen_of_block D6.out.1 1
        have r0 := cell_of_block D6.out.1 0
        have r1 := cell_of_block D6.out.1 1
        have k0 := cell_of_block D6.out.2.1 0
        have k1 := cell_of_block D6.out.2.1 1
        rw [hln] at k1
        clear hln
        go_wp2_with fail
        refine bodyPost_ret (ret_space rfl _ _ _ _ _ rfl (block_setCell (i := 1) (block_setCell (i := 0) D6.out.1 _) _)) rfl ?_
        have hln : (ss.take (2 + qn)).length = 2 + qn := by rw [List.length_take]; omega
        have := D6.out.cc (k := 2 + qn) (by have := HSL.out; omega) (by have := HC.out; omega)
        rw [List.take_take, Nat.min_self, hln] at this
        exact this _ _
    · have hp : (p == 0) = false := by simpa using hp
      have f0 := unfrozen_of_block D3.out.1 0
      have f1 := unfrozen_of_block D3.out.1 1
      have r0 := cell_of_block D3.out.1 0
      have r1 := cell_of_block D3.out.1 1
      go_wp2_with fail
      refine bodyPost_ret (ret_space rfl _ _ _ _ _ rfl (block_setCell (i := 1) (block_setCell (i := 0) D3.out.1 _) _)) rfl ?_
      have := D3.out.cc (k := ss.length) HSL.out HC.out
      rw [List.take_length] at this
      exact this _ _
  · have f0 := unfrozen_of_block HD.out.1 0
    have f1 := unfrozen_of_block HD.out.1 1
    have r0 := cell_of_block HD.out.1 0
    have r1 := cell_of_block HD.out.1 1
    go_wp2_with fail
    refine bodyPost_ret (ret_space rfl _ _ _ _ _ rfl (block_setCell (i := 1) (block_setCell (i := 0) HD.out.1 _) _)) rfl ?_
    have := HD.out.cc (k := ss.length) HSL.out HC.out
    rw [List.take_length] at this
    exact this _ _
end Go.Proofs.Ytklfpbidbiippaa
