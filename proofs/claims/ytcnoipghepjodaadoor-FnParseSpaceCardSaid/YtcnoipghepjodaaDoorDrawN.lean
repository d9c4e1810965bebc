/- The model's draws of spaces, of numbers of answers and of judgments. -/
import Derived.Test.YtcnoipghepjodaaDoorDraw
namespace Go.Proofs.YtcnoipghepjodaaDoor
open Go.RowKit Go.Joins

theorem lit5d (w : World) (a b c d e : Int) : Ints (w.alloc (.cells #[.int .i64 a, .int .i64 b, .int .i64 c, .int .i64 d, .int .i64 e] 3)) (some ⟨w.heap.size, 0, none⟩) [a, b, c, d, e] := fun _ =>
  ⟨w.heap.size, 0, rfl, by simp, fun k hk => by
    match k, hk with
    | 0, _ => simp [go_sem]
    | 1, _ => simp [go_sem]
    | 2, _ => simp [go_sem]
    | 3, _ => simp [go_sem]
    | 4, _ => simp [go_sem]⟩

/-- an answer's cells and the reader -/
def QI (R : Nat) (w : World) (n : Nat) (wq : World) : Prop :=
  wq.heap[w.heap.size]? = some (.cells #[.int .i64 0, .slice none 0 0] 25 (0, 0)) ∧ w.grownBy wq (some R) ∧ RD wq R n ∧ w.heap.size + 1 ≤ wq.heap.size ∧ R < w.heap.size
theorem QI.new {R : Nat} {w : World} {n : Nat} (h : RD w R n) : QI R w n (w.alloc (.cells #[.int .i64 0, .slice none 0 0] 25)) :=
  ⟨heap_alloc_new w _, gbelow (grefl0 w R) (bel1 w _), h.below (bel1 w _), by simp, h.lt⟩
theorem QI.below {R : Nat} {w : World} {n : Nat} {wq w' : World} (h : QI R w n wq) (hb : Below wq.heap.size wq w') : QI R w n w' := by
  obtain ⟨h1, h2, h3, h4, h5⟩ := h
  exact ⟨(hb.block _ (by omega)).trans h1, gbelow h2 (hb.mono (by omega)), h3.below hb, Nat.le_trans h4 hb.size, h5⟩
theorem QI.pick {R : Nat} {w : World} {n k : Nat} {wq w' : World} (h : QI R w n wq) (hg : wq.grownBy w' (some R)) (hr : RD w' R k) : QI R w k w' := by
  obtain ⟨h1, h2, _, h4, h5⟩ := h
  exact ⟨(hg.block _ (by omega) (by simp; omega)).trans h1, gpick h2 hg, hr, Nat.le_trans h4 hg.size, h5⟩
theorem QI.done {R : Nat} {w : World} {m : Int} {n k : Nat} {v : Value} {zs : List Int} {wq : World} (h : QI R w n wq) (ho : Owns wq (w.heap.size + 1) v zs) (hl : zs.length ≤ 64 ∧ m ≤ 5) (hk : n ≤ k) (x y : Value) :
    SpacePost R k w (.returned (.agg #[.int .i64 m, v])) ((wq.setCell ⟨w.heap.size, 0, none⟩ x).setCell ⟨w.heap.size, 1, none⟩ y) := by
  obtain ⟨_, h2, h3, _, h5⟩ := h
  exact ⟨m, v, zs, rfl, (ho.set2 (by omega) _ _).le (by omega), hl, gbelow (gbelow h2 ((Below.refl _ _).setCell (p := ⟨w.heap.size, 0, none⟩) (Nat.le_refl _) _)) ((Below.refl _ _).setCell (p := ⟨w.heap.size, 1, none⟩) (Nat.le_refl _) _), ((h3.set h5).set h5).more hk⟩

set_option maxHeartbeats 2000000 in
set_option maxRecDepth 100000 in
theorem goodSpace_any (R n : Nat) (w : World) (hr : RD w R n) (hn : n < 1073740000) :
    Calls Tryd.prog 31 #[.pointer (some ⟨R, 0, none⟩)] w (SpacePost R (n + 41) w) := by
  have h0 := QI.new hr
  have hRw := h0.2.2.2.2
  have hl5 := lit5d (w.alloc (.cells #[.int .i64 0, .slice none 0 0] 25)) 3 3 4 2 1
  have h1 := h0.below (bel1 (w.alloc (.cells #[.int .i64 0, .slice none 0 0] 25)) (.cells #[.int .i64 3, .int .i64 3, .int .i64 4, .int .i64 2, .int .i64 1] 3))
  simp only [World.size_alloc] at hl5
  have HQ := hide h1
  clear h0 h1
  go_enter Tryd.func31, Tryd.ntmps31
  go_wp2_with fail
  have ho := one_any R n 5 _ _ _ HQ.out.2.2.1 (by omega) hl5 (by simp) (by simp) (fun b o s e => by cases e; omega)
  refine ho.mono ?_
  rintro e w2 ⟨x, hx, rfl, g, rd⟩
  have h2 := HQ.out.pick g rd
  have hx' : 1 ≤ x ∧ x ≤ 4 := by
    simp only [List.mem_cons, List.not_mem_nil, or_false] at hx
    omega
  clear hx ho g hl5
  go_wp2_with fail
  refine (spaceOf_any R (n + 1) x _ rd (by omega) hx'.1 hx'.2).mono ?_
  rintro e w3 ⟨m, v, zs, rfl, hown, hl, g, rd3⟩
  have h3 := h2.pick g rd3
  obtain ⟨av, cv, rfl, iv, _⟩ := hown.form
  have f0 := unfrozen_of_block h3.1 0
  have f1 := unfrozen_of_block h3.1 1
  have r0 := cell_of_block h3.1 0
  have r1 := cell_of_block h3.1 1
  have H3 := hide h3
  have HO := hide (hown.le h2.2.2.2.1)
  clear iv hown h2 h3 rd rd3 g
  go_wp2_with fail
  refine bodyPost_ret (ret_space rfl _ _ _ _ _ rfl (block_setCell (i := 1) (block_setCell (i := 0) H3.out.1 _) _)) rfl ?_
  exact H3.out.done HO.out hl (by omega) _ _

/-- What a draw of a number leaves: between -1 and 16. -/
def NumPost (R n : Nat) (w : World) (e : Ending) (w' : World) : Prop :=
  ∃ x : Int, e = .returned (.int .i64 x) ∧ (-1 ≤ x ∧ x ≤ 16) ∧ w.grownBy w' (some R) ∧ RD w' R n

end Go.Proofs.YtcnoipghepjodaaDoor
