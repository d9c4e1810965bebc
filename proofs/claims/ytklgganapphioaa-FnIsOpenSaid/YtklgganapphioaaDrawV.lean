/- The draw of a space and a part. -/
import Derived.Test.YtklgganapphioaaDrawP
import Derived.WalkArith
namespace Go.Proofs.Ytklgganapphioaa
open Go.RowKit Go.Joins

theorem and_nat_le (a : Nat) (b : Int) (ha : a < 16) (hb : 0 ≤ b ∧ b ≤ 16) : 0 ≤ bits .and .i64 (a : Int) b ∧ bits .and .i64 (a : Int) b ≤ 15 := by
  obtain ⟨c, rfl⟩ := Int.eq_ofNat_of_zero_le hb.1
  have hx : a &&& c ≤ a := Nat.and_le_left
  have e : bits .and .i64 (a : Int) (c : Int) = ((a &&& c : Nat) : Int) := by
    show IntKind.i64.wrap ((BitVec.ofInt 64 (a : Int) &&& BitVec.ofInt 64 (c : Int)).toNat : Int) = _
    rw [BitVec.toNat_and, ofInt_small a (by omega), ofInt_small c (by omega), IntKind.wrap_i64]
    omega
  rw [e]
  omega
theorem ret_part {fn : Func} {p : Tmp} (h : fn.results = #[.cell p 52]) (tmps : Array Value) (w : World) (g : Nat) (x y : Value)
    (hp : tmps.getD p undef = .pointer (some ⟨g, 0, none⟩)) (hw : w.heap[g]? = some (.cells #[x, y] 52 (0, 0))) :
    (results fn tmps).run Try.prog w = .ok (.agg #[x, y]) w := by
  have c0 := cell_of_block hw 0
  have c1 := cell_of_block hw 1
  have hr : (results fn tmps).run Try.prog w = ((asAddr (tmps.getD p undef)).run Try.prog w).andThen fun a w₁ => (loadVar 52 a).run Try.prog w₁ := by
    simp only [results, h]
    simp [Sem.run_bind, Result.andThen]
  rw [hr, hp]
  simp [go_sem] at c0 c1 ⊢
  simp [c0, c1, go_sem]
/-- two results in cells: a space and a part -/
theorem ret_both {fn : Func} {p q : Tmp} (h : fn.results = #[.cell p 28, .cell q 52]) (tmps : Array Value) (w : World) (g k : Nat) (x y c b : Value)
    (hp : tmps.getD p undef = .pointer (some ⟨g, 0, none⟩)) (hq : tmps.getD q undef = .pointer (some ⟨k, 0, none⟩)) (hw : w.heap[g]? = some (.cells #[x, y] 28 (0, 0))) (hk : w.heap[k]? = some (.cells #[c, b] 52 (0, 0))) :
    (results fn tmps).run Try.prog w = .ok (.tuple #[.agg #[x, y], .agg #[c, b]]) w := by
  have c0 := cell_of_block hw 0
  have c1 := cell_of_block hw 1
  have k0 := cell_of_block hk 0
  have k1 := cell_of_block hk 1
  have hr : (results fn tmps).run Try.prog w = ((asAddr (tmps.getD p undef)).run Try.prog w).andThen fun a w₁ => ((loadVar 28 a).run Try.prog w₁).andThen fun v w₂ => ((asAddr (tmps.getD q undef)).run Try.prog w₂).andThen fun a w₃ => ((loadVar 52 a).run Try.prog w₃).andThen fun u w₄ => .ok (.tuple #[v, u]) w₄ := by
    simp only [results, h]
    simp [Sem.run_bind, Result.andThen]
  rw [hr, hp, hq]
  simp [go_sem] at c0 c1 k0 k1 ⊢
  simp [c0, c1, k0, k1, go_sem]

/-- What a draw of a part leaves. -/
def PartPost (R n : Nat) (w : World) (e : Ending) (w' : World) : Prop :=
  ∃ c b : Int, e = .returned (.agg #[.int .i64 c, .int .i64 b]) ∧ (-1 ≤ b ∧ b ≤ 16) ∧ w.grownBy w' (some R) ∧ RD w' R n

/-- a part under way: its cells, the space's box, the reader -/
def PI (R : Nat) (w : World) (n : Nat) (m : Int) (v : Value) (wq : World) : Prop :=
  wq.heap[w.heap.size + 1]? = some (.cells #[.int .i64 0, .int .i64 0] 52 (0, 0)) ∧ wq.heap[w.heap.size]? = some (.cells #[.int .i64 m, v] 28 (0, 0)) ∧ w.grownBy wq (some R) ∧ RD wq R n ∧ R < w.heap.size
theorem PI.new {R : Nat} {w : World} {n : Nat} (m : Int) (v : Value) (h : RD w R n) : PI R w n m v ((w.alloc (.cells #[.int .i64 m, v] 28)).alloc (.cells #[.int .i64 0, .int .i64 0] 52)) := by
  have h1 := heap_alloc_new (w.alloc (.cells #[.int .i64 m, v] 28)) (.cells #[.int .i64 0, .int .i64 0] 52)
  simp only [World.size_alloc] at h1
  have h0 := heap_alloc_new w (.cells #[.int .i64 m, v] 28)
  exact ⟨h1, ((bel1 _ _).block w.heap.size (by simp)).trans h0, gbelow (grefl0 w R) (bel2 w _ _), h.below (bel2 w _ _), h.lt⟩
theorem PI.below {R : Nat} {w : World} {n : Nat} {m : Int} {v : Value} {wq w' : World} (h : PI R w n m v wq) (hb : Below wq.heap.size wq w') : PI R w n m v w' := by
  obtain ⟨h1, h2, h3, h4, h5⟩ := h
  have := lt_of_block h2
  exact ⟨(hb.block _ (lt_of_block h1)).trans h1, (hb.block _ this).trans h2, gbelow h3 (hb.mono (by omega)), h4.below hb, h5⟩
theorem PI.pick {R : Nat} {w : World} {n k : Nat} {m : Int} {v : Value} {wq w' : World} (h : PI R w n m v wq) (hg : wq.grownBy w' (some R)) (hr : RD w' R k) : PI R w k m v w' := by
  obtain ⟨h1, h2, h3, h4, h5⟩ := h
  exact ⟨(hg.block _ (lt_of_block h1) (by simp; omega)).trans h1, (hg.block _ (lt_of_block h2) (by simp; omega)).trans h2, gpick h3 hg, hr, h5⟩
theorem PI.done {R : Nat} {w : World} {n k : Nat} {m c b : Int} {v : Value} {wq : World} (h : PI R w n m v wq) (hb : -1 ≤ b ∧ b ≤ 16) (hk : n ≤ k) (x y : Value) :
    PartPost R k w (.returned (.agg #[.int .i64 c, .int .i64 b])) ((wq.setCell ⟨w.heap.size + 1, 0, none⟩ x).setCell ⟨w.heap.size + 1, 1, none⟩ y) := by
  obtain ⟨_, _, h3, h4, h5⟩ := h
  exact ⟨c, b, rfl, hb, gbelow (gbelow h3 ((Below.refl _ _).setCell (p := ⟨w.heap.size + 1, 0, none⟩) (by show w.heap.size ≤ w.heap.size + 1; omega) _)) ((Below.refl _ _).setCell (p := ⟨w.heap.size + 1, 1, none⟩) (by show w.heap.size ≤ w.heap.size + 1; omega) _), ((h4.set (by omega)).set (by omega)).more hk⟩

set_option maxHeartbeats 2000000 in
set_option maxRecDepth 100000 in
theorem partOf_any (R n : Nat) (m : Int) (v : Value) (w : World) (hr : RD w R n) (hn : n < 1073730000) :
    Calls Try.prog 129 #[.pointer (some ⟨R, 0, none⟩), .agg #[.int .i64 m, v]] w (PartPost R (n + 4) w) := by
  have hRw := hr.lt
  have P0 := PI.new m v hr
  have c0 := cell_of_block P0.2.1 0
  have c1 := cell_of_block P0.2.1 1
  have HP := hide P0
  clear hr P0
  go_enter Try.func129, Try.ntmps129
  go_wp2_with fail
  refine (anyPoint_any R n m v _ HP.out.2.2.2.1 (by omega)).mono ?_
  rintro e w1 ⟨c, rfl, hc, g, rd⟩
  have P1 := hide (HP.out.pick g rd)
  clear g rd c0 c1
  by_cases hneg : c < 0
  · have rd1 := P1.out.2.2.2.1
    have hl3 := lit3 w1 1 0 (-1)
    have hb := bel1 w1 (.cells #[.int .i64 1, .int .i64 0, .int .i64 (-1)] 3)
    have P2 := hide (P1.out.below hb)
    have rd2 := P2.out.2.2.2.1
    clear rd1 hb
    go_wp2_with fail
    have ho := one_any R (n + 2) 3 _ _ _ rd2 (by omega) hl3 (by simp) (by simp) (fun b o s e => by cases e; have := lt_of_block P1.out.2.1; omega)
    refine ho.mono ?_
    rintro e w4 ⟨b, hb, rfl, g, rd4⟩
    have P4 := hide (P2.out.pick g rd4)
    have HB : Hid (-1 ≤ b ∧ b ≤ 16) := by
      simp only [List.mem_cons, List.not_mem_nil, or_false] at hb
      show -1 ≤ b ∧ b ≤ 16
      omega
    have q0 := cell_of_block P4.out.1 0
    have q1 := cell_of_block P4.out.1 1
    have f0 := unfrozen_of_block P4.out.1 0
    have f1 := unfrozen_of_block P4.out.1 1
    clear hb ho g rd4 hl3 rd2
    go_wp2_with fail
    refine bodyPost_ret (ret_part rfl _ _ _ _ _ rfl (block_setCell (i := 1) (block_setCell (i := 0) P4.out.1 _) _)) rfl ?_
    exact P4.out.done HB.out (by omega) _ _
  · have hd : decide (c < 0) = false := by simpa using hneg
    have rd1 := P1.out.2.2.2.1
    go_wp2_with fail
    refine (pick_any R (n + 2) _ _ rd1 (by omega) ⟨by omega, by omega⟩).mono ?_
    rintro e w2 ⟨r, rfl, _, _, _, g, rd⟩
    have P2 := hide (P1.out.pick g rd)
    clear g rd rd1 hd
    by_cases h0 : (r == 0) = true
    · have hl3 := lit3 w2 1 0 (-1)
      have hb := bel1 w2 (.cells #[.int .i64 1, .int .i64 0, .int .i64 (-1)] 3)
      have P3 := hide (P2.out.below hb)
      have rd2 := P3.out.2.2.2.1
      clear hb
      go_wp2_with fail
      have ho := one_any R (n + 2 + 1) 3 _ _ _ rd2 (by omega) hl3 (by simp) (by simp) (fun b o s e => by cases e; have := lt_of_block P2.out.2.1; omega)
      refine ho.mono ?_
      rintro e w4 ⟨b, hb, rfl, g, rd4⟩
      have P4 := hide (P3.out.pick g rd4)
      have HB : Hid (-1 ≤ b ∧ b ≤ 16) := by
        simp only [List.mem_cons, List.not_mem_nil, or_false] at hb
        show -1 ≤ b ∧ b ≤ 16
        omega
      have q0 := cell_of_block P4.out.1 0
      have q1 := cell_of_block P4.out.1 1
      have f0 := unfrozen_of_block P4.out.1 0
      have f1 := unfrozen_of_block P4.out.1 1
      clear hb ho g rd4 hl3 rd2
      go_wp2_with fail
      refine bodyPost_ret (ret_part rfl _ _ _ _ _ rfl (block_setCell (i := 1) (block_setCell (i := 0) P4.out.1 _) _)) rfl ?_
      exact P4.out.done HB.out (by omega) _ _
    · have h0 : (r == 0) = false := by simpa using h0
      have rd2 := P2.out.2.2.2.1
      go_wp2_with fail
      refine (pick_any R (n + 2 + 1) _ _ rd2 (by omega) ⟨by omega, by omega⟩).mono ?_
      rintro e w4 ⟨b, rfl, hb0, hbl, _, g, rd4⟩
      have P4 := hide (P2.out.pick g rd4)
      obtain ⟨k, rfl⟩ := Int.eq_ofNat_of_zero_le hb0
      have hk : k < 16 := by
        have := hbl (by omega)
        omega
      have HB : Hid (-1 ≤ bits .and .i64 (k : Int) c ∧ bits .and .i64 (k : Int) c ≤ 16) := by
        have := and_nat_le k c hk ⟨by omega, hc.2⟩
        show -1 ≤ bits .and .i64 (k : Int) c ∧ bits .and .i64 (k : Int) c ≤ 16
        omega
      have q0 := cell_of_block P4.out.1 0
      have q1 := cell_of_block P4.out.1 1
      have f0 := unfrozen_of_block P4.out.1 0
      have f1 := unfrozen_of_block P4.out.1 1
      clear hbl g rd4 rd2
      go_wp2_with fail
      refine bodyPost_ret (ret_part rfl _ _ _ _ _ rfl (block_setCell (i := 1) (block_setCell (i := 0) P4.out.1 _) _)) rfl ?_
      exact P4.out.done HB.out (by omega) _ _

/-- What a draw of a space and a part leaves. -/
def DrawSPPost (w : World) (e : Ending) (w' : World) : Prop :=
  ∃ (m : Int) (a : Option Addr) (zs : List Int) (cap : Nat) (c b : Int), e = .returned (.tuple #[.agg #[.int .i64 m, .slice a zs.length cap], .agg #[.int .i64 c, .int .i64 b]]) ∧ Ints w' a zs ∧ zs.length ≤ 65 ∧ (-1 ≤ b ∧ b ≤ 16) ∧ Below w.heap.size w w' ∧ ∀ g o s, a = some ⟨g, o, s⟩ → w.heap.size + 2 ≤ g
/-- the part's cells beside the space's -/
theorem DS.part {R n B cap : Nat} {w wq : World} {x y : Value} {m c b : Int} {a : Option Addr} {zs : List Int} (h : DS R w n x y B m a cap zs wq) (hR : w.heap.size + 2 ≤ R) {u v : Value} (hk : wq.heap[w.heap.size + 1]? = some (.cells #[u, v] 52 (0, 0))) (c' b' : Value) :
    ((wq.setCell ⟨w.heap.size + 1, 0, none⟩ c').setCell ⟨w.heap.size + 1, 1, none⟩ b').heap[w.heap.size]? = some (.cells #[x, y] 28 (0, 0)) ∧ ((wq.setCell ⟨w.heap.size + 1, 0, none⟩ c').setCell ⟨w.heap.size + 1, 1, none⟩ b').heap[w.heap.size + 1]? = some (.cells #[c', b'] 52 (0, 0)) ∧
      (zs.length ≤ 65 → -1 ≤ b ∧ b ≤ 16 → DrawSPPost w (.returned (.tuple #[.agg #[.int .i64 m, .slice a zs.length cap], .agg #[.int .i64 c, .int .i64 b]])) ((wq.setCell ⟨w.heap.size + 1, 0, none⟩ c').setCell ⟨w.heap.size + 1, 1, none⟩ b')) := by
  obtain ⟨h1, h2, h3, h4, h5, h6, h7, h8⟩ := h
  refine ⟨(Below.heap_setCell _ _ _ _ (by show w.heap.size ≠ w.heap.size + 1; omega)).trans ((Below.heap_setCell _ _ _ _ (by show w.heap.size ≠ w.heap.size + 1; omega)).trans h1), block_setCell (i := 1) (block_setCell (i := 0) hk _) _, fun hl hb => ⟨m, a, zs, cap, c, b, rfl, (h3.other (gset wq _ 0 _) ?_).other (gset _ _ 1 _) ?_, hl, hb, ?_, fun g o s e => by have := h4 g o s e; omega⟩⟩
  · intro b o s e e'
    have h4' := h4 b o s e
    have : w.heap.size + 1 = b := by simpa using e'
    omega
  · intro b o s e e'
    have h4' := h4 b o s e
    have : w.heap.size + 1 = b := by simpa using e'
    omega
  · exact (h5.setCell (p := ⟨w.heap.size + 1, 0, none⟩) (by show w.heap.size ≤ w.heap.size + 1; omega) _).setCell (p := ⟨w.heap.size + 1, 1, none⟩) (by show w.heap.size ≤ w.heap.size + 1; omega) _

set_option maxHeartbeats 4000000 in
set_option maxRecDepth 100000 in
theorem drawValidPart_any (a : Option Addr) (cap : Nat) (zs : List Nat) (w : World) (hi : Byts w a zs) (hl : zs.length ≤ 1048576) (hc : zs.length ≤ cap) :
    Calls Try.prog 92 #[.slice a zs.length cap] w (DrawSPPost w) := by
  have b0 := bel2 w (.cells #[.int .i64 0, .slice none 0 0] 28) (.cells #[.int .i64 0, .int .i64 0] 52)
  have h0 := ((bel1 (w.alloc (.cells #[.int .i64 0, .slice none 0 0] 28)) (.cells #[.int .i64 0, .int .i64 0] 52)).block w.heap.size (by simp)).trans (heap_alloc_new w (.cells #[.int .i64 0, .slice none 0 0] 28))
  have k0 := heap_alloc_new (w.alloc (.cells #[.int .i64 0, .slice none 0 0] 28)) (.cells #[.int .i64 0, .int .i64 0] 52)
  simp only [World.size_alloc] at k0
  have hi0 := hi.below b0
  have H0 := hide h0
  have K0 := hide k0
  have HB0 := hide b0
  clear hi h0 b0 k0
  go_enter Try.func92, Try.ntmps92
  go_wp2_with fail
  refine (newReader_any _ _ _ _ hi0 hl hc).mono ?_
  rintro e w1 ⟨R, rfl, hR, rd, B⟩
  have s1 := hide ((B.block w.heap.size (by simp; omega)).trans H0.out)
  have t1 := hide ((B.block (w.heap.size + 1) (by simp)).trans K0.out)
  have B1 := hide (bnext HB0.out B)
  have hR' : w.heap.size + 2 ≤ R := by simpa using hR
  have HR := hide hR'
  clear hR hR' B hi0
  go_wp2_with fail
  refine (someSpace_any R 0 _ rd (by omega)).mono ?_
  rintro e w2 ⟨m, v, ss, rfl, own, hsl, g, rd2⟩
  have t2 := (g.block (w.heap.size + 1) (lt_of_block t1.out) (by have := HR.out; simp; omega)).trans t1.out
  obtain ⟨av, cv, rfl, D2⟩ := DS.new (m := m) (by have := HR.out; omega) rd s1.out B1.out own g rd2
  have t3 := ((bel1 w2 (.cells #[.int .i64 m, .slice av ss.length cv] 28)).block _ (lt_of_block t2)).trans t2
  have HSL := hide hsl
  clear s1 t1 t2 B1 rd rd2 g own hsl H0 HB0 K0
  go_wp2_with fail
  generalize w2.alloc (.cells #[.int .i64 m, .slice av ss.length cv] 28) = W at D2 t3 ⊢
  have D3 := hide D2.drew
  have T3 := hide (((bdrew' (Below.refl W.heap.size W)).block _ (lt_of_block t3)).trans t3)
  have c0 := cell_of_block D3.out.2.1 0
  have c1 := cell_of_block D3.out.2.1 1
  clear D2 t3
  go_region_with ((go_at_call 129; refine (partOf_any R _ m _ _ D3.out.rd (by omega)).mono ?_; rintro e w5 ⟨c, b, rfl, hb, g5, rd5⟩; have E5 := hide (D3.out.pick g5 rd5); have T5 := hide ((g5.block _ (lt_of_block T3.out) (by have := HR.out; simp; omega)).trans T3.out); have HB := hide hb; have e0 := cell_of_block E5.out.2.1 0; have e1 := cell_of_block E5.out.2.1 1; have q0 := cell_of_block E5.out.1 0; have q1 := cell_of_block E5.out.1 1; have k0 := unfrozen_of_block E5.out.1 0; have k1 := unfrozen_of_block E5.out.1 1; have p0 := cell_of_block T5.out 0; have p1 := cell_of_block T5.out 1; have o0 := unfrozen_of_block T5.out 0; have o1 := unfrozen_of_block T5.out 1; clear g5 rd5 hb))
  all_goals
    have hS := fun k' a1 n1 c1 => (Below.heap_setCell (w5.setCell ⟨w.heap.size, 0, none⟩ (.int .i64 k')) ⟨w.heap.size, 1, none⟩ (.slice a1 n1 c1) _ (show w.heap.size + 1 ≠ w.heap.size by omega)).trans ((Below.heap_setCell w5 ⟨w.heap.size, 0, none⟩ (.int .i64 k') _ (show w.heap.size + 1 ≠ w.heap.size by omega)).trans T5.out)
    have HS := hide hS
    clear hS
    go_wp2_with fail
    refine bodyPost_ret (ret_both rfl _ _ _ _ _ _ _ _ rfl rfl (E5.out.set2.part HR.out (c := c) (b := b) (HS.out _ _ _ _) _ _).1 (E5.out.set2.part HR.out (c := c) (b := b) (HS.out _ _ _ _) _ _).2.1) rfl ?_
    exact (E5.out.set2.part HR.out (HS.out _ _ _ _) _ _).2.2 HSL.out.1 HB.out
end Go.Proofs.Ytklgganapphioaa
