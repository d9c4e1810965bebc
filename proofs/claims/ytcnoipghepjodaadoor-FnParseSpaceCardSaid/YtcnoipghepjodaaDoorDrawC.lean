/- The draws of a space alone. -/
import Derived.Test.YtcnoipghepjodaaDoorDrawM
namespace Go.Proofs.YtcnoipghepjodaaDoor
open Go.RowKit Go.Joins

/-- an answer's cells and the reader behind it -/
def EC (R : Nat) (w : World) (n : Nat) (wq : World) : Prop :=
  wq.heap[w.heap.size]? = some (.cells #[.int .i64 0, .slice none 0 0] 25 (0, 0)) ∧ Below w.heap.size w wq ∧ RD wq R n ∧ w.heap.size < R
theorem EC.pick {R n k : Nat} {w wq w' : World} (h : EC R w n wq) (hg : wq.grownBy w' (some R)) (hr : RD w' R k) : EC R w k w' := by
  obtain ⟨h1, h2, _, h4⟩ := h
  exact ⟨(hg.block _ (lt_of_block h1) (by simp; omega)).trans h1, bgrown h2 hg h2.size (fun k hk => by cases hk; omega), hr, h4⟩
/-- What a draw of a space alone leaves. -/
def DrawCPost (w : World) (e : Ending) (w' : World) : Prop :=
  ∃ (m : Int) (a : Option Addr) (zs : List Int) (cap : Nat), e = .returned (.agg #[.int .i64 m, .slice a zs.length cap]) ∧ Ints w' a zs ∧ zs.length ≤ 65 ∧ zs.length ≤ cap ∧ Below w.heap.size w w'
theorem cc_done {w wq : World} {m : Int} {a : Option Addr} {cap base : Nat} {zs : List Int} (ho : Owns wq base (.slice a zs.length cap) zs) (hb : w.heap.size < base) (hl : zs.length ≤ 65) (B : Below w.heap.size w wq) (x y : Value) :
    DrawCPost w (.returned (.agg #[.int .i64 m, .slice a zs.length cap])) ((wq.setCell ⟨w.heap.size, 0, none⟩ x).setCell ⟨w.heap.size, 1, none⟩ y) :=
  ⟨m, a, zs, cap, rfl, (ho.set2 (by omega) _ _).ints, hl, ho.cap, (B.setCell (p := ⟨w.heap.size, 0, none⟩) (Nat.le_refl _) _).setCell (p := ⟨w.heap.size, 1, none⟩) (Nat.le_refl _) _⟩






set_option maxHeartbeats 4000000 in
set_option maxRecDepth 100000 in
theorem drawSpaceText_any (a : Option Addr) (cap : Nat) (zs : List Nat) (w : World) (hi : Byts w a zs) (hl : zs.length ≤ 1048576) (hc : zs.length ≤ cap) :
    Calls Tryd.prog 7 #[.slice a zs.length cap] w (DrawCPost w) := by
  have h0 := heap_alloc_new w (.cells #[.int .i64 0, .slice none 0 0] 25)
  have b0 := bel1 w (.cells #[.int .i64 0, .slice none 0 0] 25)
  have hi1 := hi.below b0
  have H0 := hide h0
  have HB0 := hide b0
  clear hi h0 b0
  go_enter Tryd.func7, Tryd.ntmps7
  go_wp2_with fail
  refine (newReader_any _ _ _ _ hi1 hl hc).mono ?_
  rintro e w1 ⟨R, rfl, hR, rd, B⟩
  have E1 : Hid (EC R w 0 w1) := ⟨(B.block w.heap.size (by simp)).trans H0.out, bnext HB0.out B, rd, Nat.lt_of_succ_le (by simpa using hR)⟩
  clear hR B rd hi1 H0 HB0
  have r2 := E1.out.2.2.1
  go_wp2_with fail
  refine (someSpace_any R 0 _ r2 (by omega)).mono ?_
  rintro e w3 ⟨m, v, ss, rfl, own, hsl, g, rd⟩
  obtain ⟨av, cv, rfl, _, _⟩ := own.form
  have E3 := hide (E1.out.pick g rd)
  have hw2 := hide (lt_of_block E1.out.1)
  have f0 := unfrozen_of_block E3.out.1 0
  have f1 := unfrozen_of_block E3.out.1 1
  have r0 := cell_of_block E3.out.1 0
  have r1 := cell_of_block E3.out.1 1
  have HO := hide own
  clear own g rd r2 E1
  go_wp2_with fail
  refine bodyPost_ret (ret_space rfl _ _ _ _ _ rfl (block_setCell (i := 1) (block_setCell (i := 0) E3.out.1 _) _)) rfl ?_
  exact cc_done HO.out hw2.out hsl.1 E3.out.2.1 _ _
end Go.Proofs.YtcnoipghepjodaaDoor
