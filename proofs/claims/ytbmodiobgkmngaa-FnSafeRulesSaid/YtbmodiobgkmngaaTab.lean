/- Sets of groups: arrays of eight answers, in memory and compared. -/
import Derived.Test.YtbmodiobgkmngaaRuleV
import Derived.ChangeKeysEq
namespace Go.Proofs.Ytbmodiobgkmngaa
open Go.RowKit Go.Joins

theorem free_blk {w : World} {g : Nat} {cs : Array Value} {t : TypeId} (h : w.heap[g]? = some (.cells cs t (0, 0))) (i : Nat) : w.frozen? ⟨g, i, none⟩ = false := by simp [World.frozen?, h]
theorem lt_blk {w : World} {g : Nat} {o : Obj} (h : w.heap[g]? = some o) : g < w.heap.size := (Array.getElem?_eq_some_iff.1 h).1
theorem blk_below {w w' : World} {g : Nat} {o : Obj} (h : w.heap[g]? = some o) (hb : Below w.heap.size w w') : w'.heap[g]? = some o := (hb.block g (lt_blk h)).trans h

/-- A variable of eight answers: its cells. -/
def Tab (w : World) (g : Nat) (f : Nat → Bool) : Prop := g < w.heap.size ∧ w.cell? ⟨g, 0, none⟩ = some (.bool (f 0)) ∧ w.cell? ⟨g, 1, none⟩ = some (.bool (f 1)) ∧ w.cell? ⟨g, 2, none⟩ = some (.bool (f 2)) ∧ w.cell? ⟨g, 3, none⟩ = some (.bool (f 3)) ∧
  w.cell? ⟨g, 4, none⟩ = some (.bool (f 4)) ∧ w.cell? ⟨g, 5, none⟩ = some (.bool (f 5)) ∧ w.cell? ⟨g, 6, none⟩ = some (.bool (f 6)) ∧ w.cell? ⟨g, 7, none⟩ = some (.bool (f 7))
theorem Tab.below {w w' : World} {g : Nat} {f : Nat → Bool} (h : Tab w g f) (hb : Below w.heap.size w w') : Tab w' g f := by
  obtain ⟨hl, c0, c1, c2, c3, c4, c5, c6, c7⟩ := h
  have e := fun o => hb.cell (p := ⟨g, o, none⟩) hl
  exact ⟨Nat.lt_of_lt_of_le hl hb.size, (e 0).trans c0, (e 1).trans c1, (e 2).trans c2, (e 3).trans c3, (e 4).trans c4, (e 5).trans c5, (e 6).trans c6, (e 7).trans c7⟩
theorem Tab.of {w : World} {g : Nat} {f : Nat → Bool} {t : TypeId} (h : w.heap[g]? = some (.cells #[Value.bool (f 0), Value.bool (f 1), Value.bool (f 2), Value.bool (f 3), Value.bool (f 4), Value.bool (f 5), Value.bool (f 6), Value.bool (f 7)] t (0, 0))) : Tab w g f := by
  refine ⟨lt_blk h, ?_, ?_, ?_, ?_, ?_, ?_, ?_, ?_⟩ <;> (rw [cell_of_block h]; rfl)
theorem Tab.new (w : World) (f : Nat → Bool) (t : TypeId) : Tab (w.alloc (.cells #[Value.bool (f 0), Value.bool (f 1), Value.bool (f 2), Value.bool (f 3), Value.bool (f 4), Value.bool (f 5), Value.bool (f 6), Value.bool (f 7)] t)) w.heap.size f := by
  refine ⟨by simp, ?_, ?_, ?_, ?_, ?_, ?_, ?_, ?_⟩ <;> simp [go_sem]
theorem Tab.at {w : World} {g : Nat} {f : Nat → Bool} (h : Tab w g f) (k : Nat) (hk : k < 8) : w.cell? ⟨g, k, none⟩ = some (.bool (f k)) := by
  obtain ⟨hl, c0, c1, c2, c3, c4, c5, c6, c7⟩ := h
  rcases (show k = 0 ∨ k = 1 ∨ k = 2 ∨ k = 3 ∨ k = 4 ∨ k = 5 ∨ k = 6 ∨ k = 7 from by omega) with rfl | rfl | rfl | rfl | rfl | rfl | rfl | rfl
  · exact c0
  · exact c1
  · exact c2
  · exact c3
  · exact c4
  · exact c5
  · exact c6
  · exact c7

/-- the first k of the answers, no others -/
def pt (k : Nat) (f : Nat → Bool) (j : Nat) : Bool := decide (j < k) && f j
theorem pt_set (k : Nat) (f : Nat → Bool) (hk : k < 8) : #[Value.bool (pt k f 0), Value.bool (pt k f 1), Value.bool (pt k f 2), Value.bool (pt k f 3), Value.bool (pt k f 4), Value.bool (pt k f 5), Value.bool (pt k f 6), Value.bool (pt k f 7)].setIfInBounds k (.bool (f k)) = #[Value.bool (pt (k + 1) f 0), Value.bool (pt (k + 1) f 1), Value.bool (pt (k + 1) f 2), Value.bool (pt (k + 1) f 3), Value.bool (pt (k + 1) f 4), Value.bool (pt (k + 1) f 5), Value.bool (pt (k + 1) f 6), Value.bool (pt (k + 1) f 7)] := by
  rcases (show k = 0 ∨ k = 1 ∨ k = 2 ∨ k = 3 ∨ k = 4 ∨ k = 5 ∨ k = 6 ∨ k = 7 from by omega) with rfl | rfl | rfl | rfl | rfl | rfl | rfl | rfl <;> simp [pt]
theorem pt_zero (f : Nat → Bool) : #[Value.bool (pt 0 f 0), Value.bool (pt 0 f 1), Value.bool (pt 0 f 2), Value.bool (pt 0 f 3), Value.bool (pt 0 f 4), Value.bool (pt 0 f 5), Value.bool (pt 0 f 6), Value.bool (pt 0 f 7)] = #[.bool false, .bool false, .bool false, .bool false, .bool false, .bool false, .bool false, .bool false] := by simp [pt]
theorem pt_blk {w : World} {g k : Nat} {f : Nat → Bool} {t : TypeId} (hk : k < 8) (h : w.heap[g]? = some (.cells #[Value.bool (pt k f 0), Value.bool (pt k f 1), Value.bool (pt k f 2), Value.bool (pt k f 3), Value.bool (pt k f 4), Value.bool (pt k f 5), Value.bool (pt k f 6), Value.bool (pt k f 7)] t (0, 0))) : (w.setCell ⟨g, k, none⟩ (.bool (f k))).heap[g]? = some (.cells #[Value.bool (pt (k + 1) f 0), Value.bool (pt (k + 1) f 1), Value.bool (pt (k + 1) f 2), Value.bool (pt (k + 1) f 3), Value.bool (pt (k + 1) f 4), Value.bool (pt (k + 1) f 5), Value.bool (pt (k + 1) f 6), Value.bool (pt (k + 1) f 7)] t (0, 0)) := by
  rw [block_setCell h, pt_set k f hk]

theorem new_blk (w : World) (cs : Array Value) (t : TypeId) : (w.alloc (.cells cs t)).heap[w.heap.size]? = some (.cells cs t (0, 0)) := heap_alloc_new w _
theorem pt_start (w : World) (f : Nat → Bool) (t : TypeId) : (w.alloc (.cells #[.bool false, .bool false, .bool false, .bool false, .bool false, .bool false, .bool false, .bool false] t)).heap[w.heap.size]? = some (.cells #[Value.bool (pt 0 f 0), Value.bool (pt 0 f 1), Value.bool (pt 0 f 2), Value.bool (pt 0 f 3), Value.bool (pt 0 f 4), Value.bool (pt 0 f 5), Value.bool (pt 0 f 6), Value.bool (pt 0 f 7)] t (0, 0)) := by
  rw [pt_zero]; exact new_blk _ _ _
theorem set8_blk {w : World} {g : Nat} {t : TypeId} {u0 u1 u2 u3 u4 u5 u6 u7 : Value} (h : w.heap[g]? = some (.cells #[u0, u1, u2, u3, u4, u5, u6, u7] t (0, 0))) (x0 x1 x2 x3 x4 x5 x6 x7 : Value) :
    ((((((((w.setCell ⟨g, 0, none⟩ x0).setCell ⟨g, 1, none⟩ x1).setCell ⟨g, 2, none⟩ x2).setCell ⟨g, 3, none⟩ x3).setCell ⟨g, 4, none⟩ x4).setCell ⟨g, 5, none⟩ x5).setCell ⟨g, 6, none⟩ x6).setCell ⟨g, 7, none⟩ x7).heap[g]? = some (.cells #[x0, x1, x2, x3, x4, x5, x6, x7] t (0, 0)) := by
  have h0 := block_setCell (i := 0) h x0
  have h1 := block_setCell (i := 1) h0 x1
  have h2 := block_setCell (i := 2) h1 x2
  have h3 := block_setCell (i := 3) h2 x3
  have h4 := block_setCell (i := 4) h3 x4
  have h5 := block_setCell (i := 5) h4 x5
  have h6 := block_setCell (i := 6) h5 x6
  have h7 := block_setCell (i := 7) h6 x7
  simpa using h7
theorem set8_below {K g : Nat} {w w' : World} (h : Below K w w') (hg : K ≤ g) (x0 x1 x2 x3 x4 x5 x6 x7 : Value) :
    Below K w ((((((((w'.setCell ⟨g, 0, none⟩ x0).setCell ⟨g, 1, none⟩ x1).setCell ⟨g, 2, none⟩ x2).setCell ⟨g, 3, none⟩ x3).setCell ⟨g, 4, none⟩ x4).setCell ⟨g, 5, none⟩ x5).setCell ⟨g, 6, none⟩ x6).setCell ⟨g, 7, none⟩ x7) :=
  (((((((h.setCell (p := ⟨g, 0, none⟩) hg _).setCell (p := ⟨g, 1, none⟩) hg _).setCell (p := ⟨g, 2, none⟩) hg _).setCell (p := ⟨g, 3, none⟩) hg _).setCell (p := ⟨g, 4, none⟩) hg _).setCell (p := ⟨g, 5, none⟩) hg _).setCell (p := ⟨g, 6, none⟩) hg _).setCell (p := ⟨g, 7, none⟩) hg _
theorem ret_arr {fn : Func} {p : Tmp} (h : fn.results = #[.cell p 60]) (tmps : Array Value) (w : World) (g : Nat) (t : TypeId) (x0 x1 x2 x3 x4 x5 x6 x7 : Value)
    (hp : tmps.getD p undef = .pointer (some ⟨g, 0, none⟩)) (hw : w.heap[g]? = some (.cells #[x0, x1, x2, x3, x4, x5, x6, x7] t (0, 0))) :
    (results fn tmps).run Try.prog w = .ok (.agg #[x0, x1, x2, x3, x4, x5, x6, x7]) w := by
  have c0 := cell_of_block hw 0
  have c1 := cell_of_block hw 1
  have c2 := cell_of_block hw 2
  have c3 := cell_of_block hw 3
  have c4 := cell_of_block hw 4
  have c5 := cell_of_block hw 5
  have c6 := cell_of_block hw 6
  have c7 := cell_of_block hw 7
  have hr : (results fn tmps).run Try.prog w = ((asAddr (tmps.getD p undef)).run Try.prog w).andThen fun a w₁ => (loadVar 60 a).run Try.prog w₁ := by
    simp only [results, h]
    simp [Sem.run_bind, Result.andThen]
  rw [hr, hp]
  simp [go_sem] at c0 c1 c2 c3 c4 c5 c6 c7 ⊢
  simp [c0, c1, c2, c3, c4, c5, c6, c7, go_sem]
theorem ret_set {fn : Func} {p : Tmp} (h : fn.results = #[.cell p 61]) (tmps : Array Value) (w : World) (g : Nat) (t : TypeId) (x0 x1 x2 x3 x4 x5 x6 x7 : Value)
    (hp : tmps.getD p undef = .pointer (some ⟨g, 0, none⟩)) (hw : w.heap[g]? = some (.cells #[x0, x1, x2, x3, x4, x5, x6, x7] t (0, 0))) :
    (results fn tmps).run Try.prog w = .ok (.agg #[x0, x1, x2, x3, x4, x5, x6, x7]) w := by
  have c0 := cell_of_block hw 0
  have c1 := cell_of_block hw 1
  have c2 := cell_of_block hw 2
  have c3 := cell_of_block hw 3
  have c4 := cell_of_block hw 4
  have c5 := cell_of_block hw 5
  have c6 := cell_of_block hw 6
  have c7 := cell_of_block hw 7
  have hr : (results fn tmps).run Try.prog w = ((asAddr (tmps.getD p undef)).run Try.prog w).andThen fun a w₁ => (loadVar 61 a).run Try.prog w₁ := by
    simp only [results, h]
    simp [Sem.run_bind, Result.andThen]
  rw [hr, hp]
  simp [go_sem] at c0 c1 c2 c3 c4 c5 c6 c7 ⊢
  simp [c0, c1, c2, c3, c4, c5, c6, c7, go_sem]
theorem part_bool (xs : Array Value) (i : Nat) (x : Bool) (w : World) (h : xs[i]? = some (.bool x)) : (part 4 xs (i * 1)).run Try.prog w = .ok (.bool x) w := by
  have hz := Try.sizeOf4
  have ha := Try.isAgg4
  simp [part, go_sem, hz, ha, h]
theorem eqItems_step (d i : Nat) (is : List Nat) (xs ys : Array Value) (x y : Bool) (w : World) (hx : xs[i]? = some (.bool x)) (hy : ys[i]? = some (.bool y)) :
    (Op.eqItems (d + 1) 4 1 xs ys (i :: is)).run Try.prog w = if (x == y) = true then (Op.eqItems (d + 1) 4 1 xs ys is).run Try.prog w else .ok false w := by
  have hb := Try.underlying4
  simp only [Op.eqItems, Sem.run_bind, part_bool xs i x w hx, part_bool ys i y w hy, Result.andThen_ok, run_equalIn_bool' w d _ x y hb]
  cases x <;> cases y <;> simp
theorem eqTab_run (a0 a1 a2 a3 a4 a5 a6 a7 b0 b1 b2 b3 b4 b5 b6 b7 : Bool) (w : World) :
    (Op.equalIn 10000 61 (.agg #[.bool a0, .bool a1, .bool a2, .bool a3, .bool a4, .bool a5, .bool a6, .bool a7]) (.agg #[.bool b0, .bool b1, .bool b2, .bool b3, .bool b4, .bool b5, .bool b6, .bool b7])).run Try.prog w =
      .ok (a0 == b0 && (a1 == b1 && (a2 == b2 && (a3 == b3 && (a4 == b4 && (a5 == b5 && (a6 == b6 && a7 == b7))))))) w := by
  have hu : Try.prog.underlying 61 = some (.array 8 4) := by kernel_rfl
  have hc : Try.prog.cellsOf 4 = 1 := by kernel_rfl
  have hi : ∃ i, Try.prog.info? 4 = some i := by
    cases h : Try.prog.info? 4 with
    | none =>
      have : (Try.prog.info? 4).isSome = true := by kernel_rfl
      rw [h] at this; cases this
    | some i => exact ⟨i, rfl⟩
  obtain ⟨i, hi⟩ := hi
  rw [show (10000 : Nat) = (9998 + 1) + 1 from rfl, run_equalIn_array w (9998 + 1) _ _ hu hi, hc]
  rw [show List.range 8 = [0, 1, 2, 3, 4, 5, 6, 7] from rfl]
  rw [eqItems_step 9998 0 _ _ _ a0 b0 w rfl rfl, eqItems_step 9998 1 _ _ _ a1 b1 w rfl rfl, eqItems_step 9998 2 _ _ _ a2 b2 w rfl rfl, eqItems_step 9998 3 _ _ _ a3 b3 w rfl rfl,
    eqItems_step 9998 4 _ _ _ a4 b4 w rfl rfl, eqItems_step 9998 5 _ _ _ a5 b5 w rfl rfl, eqItems_step 9998 6 _ _ _ a6 b6 w rfl rfl, eqItems_step 9998 7 _ _ _ a7 b7 w rfl rfl]
  generalize (a0 == b0) = c0
  generalize (a1 == b1) = c1
  generalize (a2 == b2) = c2
  generalize (a3 == b3) = c3
  generalize (a4 == b4) = c4
  generalize (a5 == b5) = c5
  generalize (a6 == b6) = c6
  generalize (a7 == b7) = c7
  cases c0 <;> cases c1 <;> cases c2 <;> cases c3 <;> cases c4 <;> cases c5 <;> cases c6 <;> cases c7 <;> rfl
theorem guardTab : Try.prog.eqGuardType Try.prog.depth 61 = false := by kernel_rfl
/-- whether eight answers are the same -/
def eqT (f h : Nat → Bool) : Bool := f 0 == h 0 && (f 1 == h 1 && (f 2 == h 2 && (f 3 == h 3 && (f 4 == h 4 && (f 5 == h 5 && (f 6 == h 6 && f 7 == h 7))))))
theorem eqlTab (a0 a1 a2 a3 a4 a5 a6 a7 b0 b1 b2 b3 b4 b5 b6 b7 : Bool) (w : World) :
    (binOp .eql 61 (.agg #[.bool a0, .bool a1, .bool a2, .bool a3, .bool a4, .bool a5, .bool a6, .bool a7]) (.agg #[.bool b0, .bool b1, .bool b2, .bool b3, .bool b4, .bool b5, .bool b6, .bool b7])).run Try.prog w =
      .ok (.bool (a0 == b0 && (a1 == b1 && (a2 == b2 && (a3 == b3 && (a4 == b4 && (a5 == b5 && (a6 == b6 && a7 == b7)))))))) w := by
  rw [run_eql_struct, eqTab_run]; rfl

theorem idx0_run (x0 x1 x2 x3 x4 x5 x6 x7 : Bool) (w : World) : (Instr.index 61 (.agg #[.bool x0, .bool x1, .bool x2, .bool x3, .bool x4, .bool x5, .bool x6, .bool x7]) (.int .i64 0)).run Try.prog w = .ok (.bool x0) w := by
  kernel_rfl
theorem idx1_run (x0 x1 x2 x3 x4 x5 x6 x7 : Bool) (w : World) : (Instr.index 61 (.agg #[.bool x0, .bool x1, .bool x2, .bool x3, .bool x4, .bool x5, .bool x6, .bool x7]) (.int .i64 1)).run Try.prog w = .ok (.bool x1) w := by
  kernel_rfl
theorem idx2_run (x0 x1 x2 x3 x4 x5 x6 x7 : Bool) (w : World) : (Instr.index 61 (.agg #[.bool x0, .bool x1, .bool x2, .bool x3, .bool x4, .bool x5, .bool x6, .bool x7]) (.int .i64 2)).run Try.prog w = .ok (.bool x2) w := by
  kernel_rfl
theorem idx3_run (x0 x1 x2 x3 x4 x5 x6 x7 : Bool) (w : World) : (Instr.index 61 (.agg #[.bool x0, .bool x1, .bool x2, .bool x3, .bool x4, .bool x5, .bool x6, .bool x7]) (.int .i64 3)).run Try.prog w = .ok (.bool x3) w := by
  kernel_rfl
theorem idx4_run (x0 x1 x2 x3 x4 x5 x6 x7 : Bool) (w : World) : (Instr.index 61 (.agg #[.bool x0, .bool x1, .bool x2, .bool x3, .bool x4, .bool x5, .bool x6, .bool x7]) (.int .i64 4)).run Try.prog w = .ok (.bool x4) w := by
  kernel_rfl
theorem idx5_run (x0 x1 x2 x3 x4 x5 x6 x7 : Bool) (w : World) : (Instr.index 61 (.agg #[.bool x0, .bool x1, .bool x2, .bool x3, .bool x4, .bool x5, .bool x6, .bool x7]) (.int .i64 5)).run Try.prog w = .ok (.bool x5) w := by
  kernel_rfl
theorem idx6_run (x0 x1 x2 x3 x4 x5 x6 x7 : Bool) (w : World) : (Instr.index 61 (.agg #[.bool x0, .bool x1, .bool x2, .bool x3, .bool x4, .bool x5, .bool x6, .bool x7]) (.int .i64 6)).run Try.prog w = .ok (.bool x6) w := by
  kernel_rfl
theorem idx7_run (x0 x1 x2 x3 x4 x5 x6 x7 : Bool) (w : World) : (Instr.index 61 (.agg #[.bool x0, .bool x1, .bool x2, .bool x3, .bool x4, .bool x5, .bool x6, .bool x7]) (.int .i64 7)).run Try.prog w = .ok (.bool x7) w := by
  kernel_rfl
theorem idx_at (f : Nat → Bool) (l : Nat) (hl : l < 8) (w : World) : (Instr.index 61 (.agg #[Value.bool (f 0), Value.bool (f 1), Value.bool (f 2), Value.bool (f 3), Value.bool (f 4), Value.bool (f 5), Value.bool (f 6), Value.bool (f 7)]) (.int .i64 (l : Int))).run Try.prog w = .ok (.bool (f l)) w := by
  rcases (show l = 0 ∨ l = 1 ∨ l = 2 ∨ l = 3 ∨ l = 4 ∨ l = 5 ∨ l = 6 ∨ l = 7 from by omega) with rfl | rfl | rfl | rfl | rfl | rfl | rfl | rfl
  · exact idx0_run _ _ _ _ _ _ _ _ w
  · exact idx1_run _ _ _ _ _ _ _ _ w
  · exact idx2_run _ _ _ _ _ _ _ _ w
  · exact idx3_run _ _ _ _ _ _ _ _ w
  · exact idx4_run _ _ _ _ _ _ _ _ w
  · exact idx5_run _ _ _ _ _ _ _ _ w
  · exact idx6_run _ _ _ _ _ _ _ _ w
  · exact idx7_run _ _ _ _ _ _ _ _ w
theorem wf_lt8 (l : Nat) (hl : l < 8) : (Lit.int .i64 (l : Int)).wf = true := by
  rcases (show l = 0 ∨ l = 1 ∨ l = 2 ∨ l = 3 ∨ l = 4 ∨ l = 5 ∨ l = 6 ∨ l = 7 from by omega) with rfl | rfl | rfl | rfl | rfl | rfl | rfl | rfl <;> rfl

theorem everybody_any (v : Int) (w : World) (hv : v = 1 ∨ v = 2 ∨ v = 3) : Calls Try.prog 68 #[.int .i64 v] w fun e w' => e = .returned (.int .i64 (pw v - 1)) ∧ w = w' := by
  rcases hv with rfl | rfl | rfl
  all_goals
    go_enter Try.func68, Try.ntmps68
    go_wp2
    go_ret
    exact ⟨ret_int rfl, rfl⟩
end Go.Proofs.Ytbmodiobgkmngaa
