/- A space and a rule drawn: someRule; the draws that are no more than it. -/
import Derived.Test.YtnmfhnieknckcaaDrawR2
import Derived.Test.YtnmfhnieknckcaaDrawL
import Derived.Test.YtnmfhnieknckcaaDrawM
import Derived.Deep.RegionWith
namespace Go.Proofs.Ytnmfhnieknckcaa
open Go.RowKit Go.Joins

/-- two results in cells: a space and a rule -/
theorem ret_bothR {fn : Func} {p q : Tmp} (h : fn.results = #[.cell p 25, .cell q 27]) (tmps : Array Value) (w : World) (g k : Nat) (x y c b : Value)
    (hp : tmps.getD p undef = .pointer (some ⟨g, 0, none⟩)) (hq : tmps.getD q undef = .pointer (some ⟨k, 0, none⟩)) (hw : w.heap[g]? = some (.cells #[x, y] 25 (0, 0))) (hk : w.heap[k]? = some (.cells #[c, b] 27 (0, 0))) :
    (results fn tmps).run Try.prog w = .ok (.tuple #[.agg #[x, y], .agg #[c, b]]) w := by
  have c0 := cell_of_block hw 0
  have c1 := cell_of_block hw 1
  have k0 := cell_of_block hk 0
  have k1 := cell_of_block hk 1
  have hr : (results fn tmps).run Try.prog w = ((asAddr (tmps.getD p undef)).run Try.prog w).andThen fun a w₁ => ((loadVar 25 a).run Try.prog w₁).andThen fun v w₂ => ((asAddr (tmps.getD q undef)).run Try.prog w₂).andThen fun a w₃ => ((loadVar 27 a).run Try.prog w₃).andThen fun u w₄ => .ok (.tuple #[v, u]) w₄ := by
    simp only [results, h]
    simp [Sem.run_bind, Result.andThen]
  rw [hr, hp, hq]
  simp [go_sem] at c0 c1 k0 k1 ⊢
  simp [c0, c1, k0, k1, go_sem]

/-- What a draw of a space and a rule leaves. -/
def SRPost (R n : Nat) (w : World) (e : Ending) (w' : World) : Prop :=
  ∃ (m : Int) (v : Value) (zs : List Int) (k : Int) (vv : Value) (ws : List Int), e = .returned (.tuple #[.agg #[.int .i64 m, v], .agg #[.int .i64 k, vv]]) ∧ Owns w' w.heap.size v zs ∧ Owns w' w.heap.size vv ws ∧ (zs.length ≤ 65 ∧ m ≤ 5) ∧ ws.length ≤ 8 ∧ k ≤ 4 ∧ w.grownBy w' (some R) ∧ RD w' R n
/-- a space and a rule under way -/
def KI (R : Nat) (w : World) (n : Nat) (m : Int) (v : Value) (zs : List Int) (B : Nat) (wq : World) : Prop :=
  wq.heap[w.heap.size]? = some (.cells #[.int .i64 0, .slice none 0 0] 25 (0, 0)) ∧ wq.heap[w.heap.size + 1]? = some (.cells #[.int .i64 0, .slice none 0 0] 27 (0, 0)) ∧ wq.heap[B]? = some (.cells #[.int .i64 m, v] 25 (0, 0)) ∧
    Owns wq (w.heap.size + 2) v zs ∧ w.grownBy wq (some R) ∧ RD wq R n ∧ R < w.heap.size ∧ w.heap.size + 2 ≤ B
theorem KI.rd {R : Nat} {w : World} {n : Nat} {m : Int} {v : Value} {zs : List Int} {B : Nat} {wq : World} (h : KI R w n m v zs B wq) : RD wq R n := h.2.2.2.2.2.1
theorem KI.below {R : Nat} {w : World} {n : Nat} {m : Int} {v : Value} {zs : List Int} {B : Nat} {wq w' : World} (h : KI R w n m v zs B wq) (hb : Below wq.heap.size wq w') : KI R w n m v zs B w' := by
  obtain ⟨h1, h2, h3, h4, h5, h6, h7, h8⟩ := h
  have := h5.size
  exact ⟨(hb.block _ (lt_of_block h1)).trans h1, (hb.block _ (lt_of_block h2)).trans h2, (hb.block _ (lt_of_block h3)).trans h3, h4.below hb, gbelow h5 (hb.mono this), h6.below hb, h7, h8⟩
theorem KI.drew {R : Nat} {w : World} {n : Nat} {m : Int} {v : Value} {zs : List Int} {B : Nat} {wq : World} (h : KI R w n m v zs B wq) : KI R w n m v zs B wq.drew := h.below (bdrew' (Below.refl _ _))
theorem KI.pick {R : Nat} {w : World} {n k : Nat} {m : Int} {v : Value} {zs : List Int} {B : Nat} {wq w' : World} (h : KI R w n m v zs B wq) (hg : wq.grownBy w' (some R)) (hr : RD w' R k) : KI R w k m v zs B w' := by
  obtain ⟨h1, h2, h3, h4, h5, h6, h7, h8⟩ := h
  exact ⟨(hg.block _ (lt_of_block h1) (by simp; omega)).trans h1, (hg.block _ (lt_of_block h2) (by simp; omega)).trans h2, (hg.block _ (lt_of_block h3) (by simp; omega)).trans h3, h4.other hg (fun g e => by cases e; omega), gpick h5 hg, hr, h7, h8⟩
theorem KI.new {R : Nat} {w w2 : World} {n k : Nat} {m : Int} {v : Value} {zs : List Int} (hr : RD w R n) (own : Owns w2 (w.heap.size + 2) v zs) (g : ((w.alloc (.cells #[.int .i64 0, .slice none 0 0] 25)).alloc (.cells #[.int .i64 0, .slice none 0 0] 27)).grownBy w2 (some R)) (rd : RD w2 R k) :
    KI R w k m v zs w2.heap.size (w2.alloc (.cells #[.int .i64 m, v] 25)) := by
  have hR := hr.lt
  have h0 := heap_alloc_new w (.cells #[.int .i64 0, .slice none 0 0] 25)
  have h0' := ((bel1 (w.alloc (.cells #[.int .i64 0, .slice none 0 0] 25)) (.cells #[.int .i64 0, .slice none 0 0] 27)).block w.heap.size (by simp)).trans h0
  have h1 := heap_alloc_new (w.alloc (.cells #[.int .i64 0, .slice none 0 0] 25)) (.cells #[.int .i64 0, .slice none 0 0] 27)
  simp only [World.size_alloc] at h1
  have hs := g.size
  simp only [World.size_alloc] at hs
  have bb := bel1 w2 (.cells #[.int .i64 m, v] 25)
  have q0 := (g.block w.heap.size (by simp; omega) (by simp; omega)).trans h0'
  have q1 := (g.block (w.heap.size + 1) (by simp) (by simp; omega)).trans h1
  exact ⟨(bb.block _ (lt_of_block q0)).trans q0, (bb.block _ (lt_of_block q1)).trans q1, heap_alloc_new w2 _, own.below bb, gbelow (gpick (gbelow (grefl0 w R) (bel2 w _ _)) g) (bb.mono (by omega)), rd.below bb, hR, hs⟩
theorem KI.done {R : Nat} {w : World} {n : Nat} {m k : Int} {v vv : Value} {zs ws : List Int} {B K : Nat} {wq : World} (h : KI R w n m v zs B wq) (ho : Owns wq K vv ws) (hK : w.heap.size + 2 ≤ K) (hl : zs.length ≤ 65 ∧ m ≤ 5) (hw : ws.length ≤ 8) (hk4 : k ≤ 4) (x y z u : Value) :
    ((((wq.setCell ⟨w.heap.size, 0, none⟩ x).setCell ⟨w.heap.size, 1, none⟩ y).setCell ⟨w.heap.size + 1, 0, none⟩ z).setCell ⟨w.heap.size + 1, 1, none⟩ u).heap[w.heap.size]? = some (.cells #[x, y] 25 (0, 0)) ∧
    ((((wq.setCell ⟨w.heap.size, 0, none⟩ x).setCell ⟨w.heap.size, 1, none⟩ y).setCell ⟨w.heap.size + 1, 0, none⟩ z).setCell ⟨w.heap.size + 1, 1, none⟩ u).heap[w.heap.size + 1]? = some (.cells #[z, u] 27 (0, 0)) ∧
    SRPost R n w (.returned (.tuple #[.agg #[.int .i64 m, v], .agg #[.int .i64 k, vv]])) ((((wq.setCell ⟨w.heap.size, 0, none⟩ x).setCell ⟨w.heap.size, 1, none⟩ y).setCell ⟨w.heap.size + 1, 0, none⟩ z).setCell ⟨w.heap.size + 1, 1, none⟩ u) := by
  obtain ⟨h1, h2, h3, h4, h5, h6, h7, h8⟩ := h
  have hne : w.heap.size ≠ w.heap.size + 1 := by omega
  have a1 := block_setCell (i := 1) (block_setCell (i := 0) h1 x) y
  have a2 := (Below.heap_setCell (wq.setCell ⟨w.heap.size, 0, none⟩ x) ⟨w.heap.size, 1, none⟩ y _ (show w.heap.size + 1 ≠ w.heap.size by omega)).trans ((Below.heap_setCell wq ⟨w.heap.size, 0, none⟩ x _ (show w.heap.size + 1 ≠ w.heap.size by omega)).trans h2)
  refine ⟨(Below.heap_setCell _ ⟨w.heap.size + 1, 1, none⟩ u _ hne).trans ((Below.heap_setCell _ ⟨w.heap.size + 1, 0, none⟩ z _ hne).trans a1), block_setCell (i := 1) (block_setCell (i := 0) a2 z) u, m, v, zs, k, vv, ws, rfl, ?_, ?_, hl, hw, hk4, ?_, ?_⟩
  · exact ((h4.set2 (g := w.heap.size) (by omega) x y).set2 (g := w.heap.size + 1) (by omega) z u).le (by omega)
  · exact ((ho.set2 (g := w.heap.size) (by omega) x y).set2 (g := w.heap.size + 1) (by omega) z u).le (by omega)
  · exact gbelow (gbelow (gbelow (gbelow h5 ((Below.refl _ _).setCell (p := ⟨w.heap.size, 0, none⟩) (Nat.le_refl _) _)) ((Below.refl _ _).setCell (p := ⟨w.heap.size, 1, none⟩) (Nat.le_refl _) _)) ((Below.refl _ _).setCell (p := ⟨w.heap.size + 1, 0, none⟩) (by show w.heap.size ≤ w.heap.size + 1; omega) _)) ((Below.refl _ _).setCell (p := ⟨w.heap.size + 1, 1, none⟩) (by show w.heap.size ≤ w.heap.size + 1; omega) _)
  · exact (((h6.set h7).set h7).set (by omega)).set (by omega)
set_option maxHeartbeats 4000000 in
set_option maxRecDepth 100000 in
theorem someRule_any (R n : Nat) (w : World) (hr : RD w R n) (hn : n < 1073720000) :
    Calls Try.prog 47 #[.pointer (some ⟨R, 0, none⟩)] w (SRPost R (n + 44 + 12) w) := by
  have r0 := hr.below (bel2 w (.cells #[.int .i64 0, .slice none 0 0] 25) (.cells #[.int .i64 0, .slice none 0 0] 27))
  have HR := hide hr
  clear hr
  go_enter Try.func47, Try.ntmps47
  go_wp2_with fail
  refine (someSpace_any R n _ r0 (by omega)).mono ?_
  rintro e w2 ⟨m, v, ss, rfl, own, hsl, g, rd2⟩
  simp only [World.size_alloc] at own
  have K1 := KI.new (m := m) HR.out own g rd2
  obtain ⟨av, cv, rfl, _, _⟩ := own.form
  have HSL := hide hsl
  clear own g rd2 hsl r0
  go_wp2_with fail
  obtain ⟨B, hB⟩ : ∃ B, B = w2.heap.size := ⟨_, rfl⟩
  obtain ⟨W, hW⟩ : ∃ W : World, W = w2.alloc (.cells #[.int .i64 m, .slice av ss.length cv] 25) := ⟨_, rfl⟩
  rw [← hB, ← hW] at K1
  rw [← hW, ← hB]
  clear hW hB
  have K3 := hide K1.drew
  have hsz3 : w.heap.size + 2 ≤ W.drew.heap.size := by
    have h1 := K3.out.2.2.2.2.2.2.2
    have h2 := lt_of_block K3.out.2.2.1
    omega
  have HSZ := hide hsz3
  have c0 := cell_of_block K3.out.2.2.1 0
  have c1 := cell_of_block K3.out.2.2.1 1
  clear K1 hsz3
  go_region_with ((go_at_call 100; refine (ruleOf_any R _ m _ _ _ _ K3.out.rd (by omega) HSL.out.2).mono ?_; rintro e w5 ⟨k, vv, ws, rfl, own5, hw5, hv5, g5, rd5⟩; have HK5 := hide hv5; have E5 := hide (K3.out.pick g5 rd5); have O5 := hide own5; have HW5 := hide hw5; obtain ⟨aw, cw, rfl, _, _⟩ := own5.form; have e0 := cell_of_block E5.out.2.2.1 0; have e1 := cell_of_block E5.out.2.2.1 1; have q0 := cell_of_block E5.out.1 0; have q1 := cell_of_block E5.out.1 1; have k0 := unfrozen_of_block E5.out.1 0; have k1 := unfrozen_of_block E5.out.1 1; have p0 := cell_of_block E5.out.2.1 0; have p1 := cell_of_block E5.out.2.1 1; have o0 := unfrozen_of_block E5.out.2.1 0; have o1 := unfrozen_of_block E5.out.2.1 1; clear g5 rd5 own5 hw5 hv5))
  all_goals
    go_wp2_with fail
    refine bodyPost_ret (ret_bothR rfl _ _ _ _ _ _ _ _ rfl rfl (E5.out.done (k := k) O5.out HSZ.out HSL.out HW5.out HK5.out _ _ _ _).1 (E5.out.done (k := k) O5.out HSZ.out HSL.out HW5.out HK5.out _ _ _ _).2.1) rfl ?_
    exact (E5.out.done (k := k) O5.out HSZ.out HSL.out HW5.out HK5.out _ _ _ _).2.2
/-- What the draw of a space and a rule leaves, seen from without. -/
def DrawSRPost (w : World) (e : Ending) (w' : World) : Prop :=
  ∃ (m : Int) (a : Option Addr) (zs : List Int) (cap : Nat) (v : Int) (b : Option Addr) (ws : List Int) (capb : Nat), e = .returned (.tuple #[.agg #[.int .i64 m, .slice a zs.length cap], .agg #[.int .i64 v, .slice b ws.length capb]]) ∧ Ints w' a zs ∧ zs.length ≤ 65 ∧ Ints w' b ws ∧ ws.length ≤ 8 ∧ Below w.heap.size w w'
set_option maxHeartbeats 4000000 in
set_option maxRecDepth 100000 in
theorem drawDictatorOf_any (a : Option Addr) (cap : Nat) (zs : List Nat) (w : World) (hi : Byts w a zs) (hl : zs.length ≤ 1048576) (hc : zs.length ≤ cap) :
    Calls Try.prog 19 #[.slice a zs.length cap] w (DrawSRPost w) := by
  have b0 := bel2 w (.cells #[.int .i64 0, .slice none 0 0] 25) (.cells #[.int .i64 0, .slice none 0 0] 27)
  have h0 := ((bel1 (w.alloc (.cells #[.int .i64 0, .slice none 0 0] 25)) (.cells #[.int .i64 0, .slice none 0 0] 27)).block w.heap.size (by simp)).trans (heap_alloc_new w (.cells #[.int .i64 0, .slice none 0 0] 25))
  have k0 := heap_alloc_new (w.alloc (.cells #[.int .i64 0, .slice none 0 0] 25)) (.cells #[.int .i64 0, .slice none 0 0] 27)
  simp only [World.size_alloc] at k0
  have hib := hi.below b0
  have H0 := hide h0
  have K0 := hide k0
  have HB0 := hide b0
  clear hi h0 b0 k0
  go_enter Try.func19, Try.ntmps19
  go_wp2_with fail
  refine (newReader_any _ _ _ _ hib hl hc).mono ?_
  rintro e w1 ⟨R, rfl, hR, rd, B⟩
  have hR' : w.heap.size + 2 ≤ R := by simpa using hR
  have HR := hide hR'
  have s1 := (B.block w.heap.size (by simp; omega)).trans H0.out
  have t1 := (B.block (w.heap.size + 1) (by simp)).trans K0.out
  have hs1 := lt_of_block t1
  have B1 := hide (bnext HB0.out B)
  have HS1 := hide s1
  have HT1 := hide t1
  clear hR hR' B hib s1 t1
  go_wp2_with fail
  refine (someRule_any R 0 _ rd (by omega)).mono ?_
  rintro e w2 ⟨m, v, ss, k, vv, ws, rfl, own, own2, hsl, hw, _, g, rd2⟩
  obtain ⟨av, cv, rfl, iv, hge⟩ := own.form
  obtain ⟨aw, cw, rfl, iw, hge2⟩ := own2.form
  have s2 := (g.block w.heap.size (by omega) (by have := HR.out; simp; omega)).trans HS1.out
  have t2 := (g.block (w.heap.size + 1) hs1 (by have := HR.out; simp; omega)).trans HT1.out
  have B2 := hide (bgrown B1.out g B1.out.size (fun j hj => by cases hj; have := HR.out; omega))
  have q0 := cell_of_block s2 0
  have q1 := cell_of_block s2 1
  have k0 := unfrozen_of_block s2 0
  have k1 := unfrozen_of_block s2 1
  have p0 := cell_of_block t2 0
  have p1 := cell_of_block t2 1
  have o0 := unfrozen_of_block t2 0
  have o1 := unfrozen_of_block t2 1
  have OV := hide (own.le (show w.heap.size + 2 ≤ w1.heap.size by omega))
  have OW := hide (own2.le (show w.heap.size + 2 ≤ w1.heap.size by omega))
  have S2 := hide s2
  have T2 := hide t2
  clear own own2 iv iw hge hge2 g rd rd2 B1 HS1 HT1 s2 t2 hs1 HR
  go_wp2_with fail
  have hne : w.heap.size ≠ w.heap.size + 1 := by omega
  have hF : ∀ x y z u : Value, ((((w2.setCell ⟨w.heap.size, 0, none⟩ x).setCell ⟨w.heap.size, 1, none⟩ y).setCell ⟨w.heap.size + 1, 0, none⟩ z).setCell ⟨w.heap.size + 1, 1, none⟩ u).heap[w.heap.size]? = some (.cells #[x, y] 25 (0, 0)) ∧ ((((w2.setCell ⟨w.heap.size, 0, none⟩ x).setCell ⟨w.heap.size, 1, none⟩ y).setCell ⟨w.heap.size + 1, 0, none⟩ z).setCell ⟨w.heap.size + 1, 1, none⟩ u).heap[w.heap.size + 1]? = some (.cells #[z, u] 27 (0, 0)) := fun x y z u => by
    have a1 := block_setCell (i := 1) (block_setCell (i := 0) S2.out x) y
    have a2 := (Below.heap_setCell (w2.setCell ⟨w.heap.size, 0, none⟩ x) ⟨w.heap.size, 1, none⟩ y _ (show w.heap.size + 1 ≠ w.heap.size by omega)).trans ((Below.heap_setCell w2 ⟨w.heap.size, 0, none⟩ x _ (show w.heap.size + 1 ≠ w.heap.size by omega)).trans T2.out)
    exact ⟨(Below.heap_setCell _ ⟨w.heap.size + 1, 1, none⟩ u _ hne).trans ((Below.heap_setCell _ ⟨w.heap.size + 1, 0, none⟩ z _ hne).trans a1), block_setCell (i := 1) (block_setCell (i := 0) a2 z) u⟩
  refine bodyPost_ret (ret_bothR rfl _ _ _ _ _ _ _ _ rfl rfl (hF _ _ _ _).1 (hF _ _ _ _).2) rfl ?_
  refine ⟨m, av, ss, cv, k, aw, ws, cw, rfl, ((OV.out.set2 (g := w.heap.size) (by omega) _ _).set2 (g := w.heap.size + 1) (by omega) _ _).ints, hsl.1, ((OW.out.set2 (g := w.heap.size) (by omega) _ _).set2 (g := w.heap.size + 1) (by omega) _ _).ints, hw, ?_⟩
  exact (((B2.out.setCell (p := ⟨w.heap.size, 0, none⟩) (Nat.le_refl _) _).setCell (p := ⟨w.heap.size, 1, none⟩) (Nat.le_refl _) _).setCell (p := ⟨w.heap.size + 1, 0, none⟩) (by show w.heap.size ≤ w.heap.size + 1; omega) _).setCell (p := ⟨w.heap.size + 1, 1, none⟩) (by show w.heap.size ≤ w.heap.size + 1; omega) _
set_option maxHeartbeats 4000000 in
set_option maxRecDepth 100000 in
theorem drawIsSafe_any (a : Option Addr) (cap : Nat) (zs : List Nat) (w : World) (hi : Byts w a zs) (hl : zs.length ≤ 1048576) (hc : zs.length ≤ cap) :
    Calls Try.prog 10 #[.slice a zs.length cap] w (DrawSRPost w) := by
  have b0 := bel2 w (.cells #[.int .i64 0, .slice none 0 0] 25) (.cells #[.int .i64 0, .slice none 0 0] 27)
  have h0 := ((bel1 (w.alloc (.cells #[.int .i64 0, .slice none 0 0] 25)) (.cells #[.int .i64 0, .slice none 0 0] 27)).block w.heap.size (by simp)).trans (heap_alloc_new w (.cells #[.int .i64 0, .slice none 0 0] 25))
  have k0 := heap_alloc_new (w.alloc (.cells #[.int .i64 0, .slice none 0 0] 25)) (.cells #[.int .i64 0, .slice none 0 0] 27)
  simp only [World.size_alloc] at k0
  have hib := hi.below b0
  have H0 := hide h0
  have K0 := hide k0
  have HB0 := hide b0
  clear hi h0 b0 k0
  go_enter Try.func10, Try.ntmps10
  go_wp2_with fail
  refine (newReader_any _ _ _ _ hib hl hc).mono ?_
  rintro e w1 ⟨R, rfl, hR, rd, B⟩
  have hR' : w.heap.size + 2 ≤ R := by simpa using hR
  have HR := hide hR'
  have s1 := (B.block w.heap.size (by simp; omega)).trans H0.out
  have t1 := (B.block (w.heap.size + 1) (by simp)).trans K0.out
  have hs1 := lt_of_block t1
  have B1 := hide (bnext HB0.out B)
  have HS1 := hide s1
  have HT1 := hide t1
  clear hR hR' B hib s1 t1
  go_wp2_with fail
  refine (someRule_any R 0 _ rd (by omega)).mono ?_
  rintro e w2 ⟨m, v, ss, k, vv, ws, rfl, own, own2, hsl, hw, _, g, rd2⟩
  obtain ⟨av, cv, rfl, iv, hge⟩ := own.form
  obtain ⟨aw, cw, rfl, iw, hge2⟩ := own2.form
  have s2 := (g.block w.heap.size (by omega) (by have := HR.out; simp; omega)).trans HS1.out
  have t2 := (g.block (w.heap.size + 1) hs1 (by have := HR.out; simp; omega)).trans HT1.out
  have B2 := hide (bgrown B1.out g B1.out.size (fun j hj => by cases hj; have := HR.out; omega))
  have q0 := cell_of_block s2 0
  have q1 := cell_of_block s2 1
  have k0 := unfrozen_of_block s2 0
  have k1 := unfrozen_of_block s2 1
  have p0 := cell_of_block t2 0
  have p1 := cell_of_block t2 1
  have o0 := unfrozen_of_block t2 0
  have o1 := unfrozen_of_block t2 1
  have OV := hide (own.le (show w.heap.size + 2 ≤ w1.heap.size by omega))
  have OW := hide (own2.le (show w.heap.size + 2 ≤ w1.heap.size by omega))
  have S2 := hide s2
  have T2 := hide t2
  clear own own2 iv iw hge hge2 g rd rd2 B1 HS1 HT1 s2 t2 hs1 HR
  go_wp2_with fail
  have hne : w.heap.size ≠ w.heap.size + 1 := by omega
  have hF : ∀ x y z u : Value, ((((w2.setCell ⟨w.heap.size, 0, none⟩ x).setCell ⟨w.heap.size, 1, none⟩ y).setCell ⟨w.heap.size + 1, 0, none⟩ z).setCell ⟨w.heap.size + 1, 1, none⟩ u).heap[w.heap.size]? = some (.cells #[x, y] 25 (0, 0)) ∧ ((((w2.setCell ⟨w.heap.size, 0, none⟩ x).setCell ⟨w.heap.size, 1, none⟩ y).setCell ⟨w.heap.size + 1, 0, none⟩ z).setCell ⟨w.heap.size + 1, 1, none⟩ u).heap[w.heap.size + 1]? = some (.cells #[z, u] 27 (0, 0)) := fun x y z u => by
    have a1 := block_setCell (i := 1) (block_setCell (i := 0) S2.out x) y
    have a2 := (Below.heap_setCell (w2.setCell ⟨w.heap.size, 0, none⟩ x) ⟨w.heap.size, 1, none⟩ y _ (show w.heap.size + 1 ≠ w.heap.size by omega)).trans ((Below.heap_setCell w2 ⟨w.heap.size, 0, none⟩ x _ (show w.heap.size + 1 ≠ w.heap.size by omega)).trans T2.out)
    exact ⟨(Below.heap_setCell _ ⟨w.heap.size + 1, 1, none⟩ u _ hne).trans ((Below.heap_setCell _ ⟨w.heap.size + 1, 0, none⟩ z _ hne).trans a1), block_setCell (i := 1) (block_setCell (i := 0) a2 z) u⟩
  refine bodyPost_ret (ret_bothR rfl _ _ _ _ _ _ _ _ rfl rfl (hF _ _ _ _).1 (hF _ _ _ _).2) rfl ?_
  refine ⟨m, av, ss, cv, k, aw, ws, cw, rfl, ((OV.out.set2 (g := w.heap.size) (by omega) _ _).set2 (g := w.heap.size + 1) (by omega) _ _).ints, hsl.1, ((OW.out.set2 (g := w.heap.size) (by omega) _ _).set2 (g := w.heap.size + 1) (by omega) _ _).ints, hw, ?_⟩
  exact (((B2.out.setCell (p := ⟨w.heap.size, 0, none⟩) (Nat.le_refl _) _).setCell (p := ⟨w.heap.size, 1, none⟩) (Nat.le_refl _) _).setCell (p := ⟨w.heap.size + 1, 0, none⟩) (by show w.heap.size ≤ w.heap.size + 1; omega) _).setCell (p := ⟨w.heap.size + 1, 1, none⟩) (by show w.heap.size ≤ w.heap.size + 1; omega) _
set_option maxHeartbeats 4000000 in
set_option maxRecDepth 100000 in
theorem drawDoMeet_any (a : Option Addr) (cap : Nat) (zs : List Nat) (w : World) (hi : Byts w a zs) (hl : zs.length ≤ 1048576) (hc : zs.length ≤ cap) :
    Calls Try.prog 16 #[.slice a zs.length cap] w (DrawSRPost w) := by
  have b0 := bel2 w (.cells #[.int .i64 0, .slice none 0 0] 25) (.cells #[.int .i64 0, .slice none 0 0] 27)
  have h0 := ((bel1 (w.alloc (.cells #[.int .i64 0, .slice none 0 0] 25)) (.cells #[.int .i64 0, .slice none 0 0] 27)).block w.heap.size (by simp)).trans (heap_alloc_new w (.cells #[.int .i64 0, .slice none 0 0] 25))
  have k0 := heap_alloc_new (w.alloc (.cells #[.int .i64 0, .slice none 0 0] 25)) (.cells #[.int .i64 0, .slice none 0 0] 27)
  simp only [World.size_alloc] at k0
  have hib := hi.below b0
  have H0 := hide h0
  have K0 := hide k0
  have HB0 := hide b0
  clear hi h0 b0 k0
  go_enter Try.func16, Try.ntmps16
  go_wp2_with fail
  refine (newReader_any _ _ _ _ hib hl hc).mono ?_
  rintro e w1 ⟨R, rfl, hR, rd, B⟩
  have hR' : w.heap.size + 2 ≤ R := by simpa using hR
  have HR := hide hR'
  have s1 := (B.block w.heap.size (by simp; omega)).trans H0.out
  have t1 := (B.block (w.heap.size + 1) (by simp)).trans K0.out
  have hs1 := lt_of_block t1
  have B1 := hide (bnext HB0.out B)
  have HS1 := hide s1
  have HT1 := hide t1
  clear hR hR' B hib s1 t1
  go_wp2_with fail
  refine (someRule_any R 0 _ rd (by omega)).mono ?_
  rintro e w2 ⟨m, v, ss, k, vv, ws, rfl, own, own2, hsl, hw, _, g, rd2⟩
  obtain ⟨av, cv, rfl, iv, hge⟩ := own.form
  obtain ⟨aw, cw, rfl, iw, hge2⟩ := own2.form
  have s2 := (g.block w.heap.size (by omega) (by have := HR.out; simp; omega)).trans HS1.out
  have t2 := (g.block (w.heap.size + 1) hs1 (by have := HR.out; simp; omega)).trans HT1.out
  have B2 := hide (bgrown B1.out g B1.out.size (fun j hj => by cases hj; have := HR.out; omega))
  have q0 := cell_of_block s2 0
  have q1 := cell_of_block s2 1
  have k0 := unfrozen_of_block s2 0
  have k1 := unfrozen_of_block s2 1
  have p0 := cell_of_block t2 0
  have p1 := cell_of_block t2 1
  have o0 := unfrozen_of_block t2 0
  have o1 := unfrozen_of_block t2 1
  have OV := hide (own.le (show w.heap.size + 2 ≤ w1.heap.size by omega))
  have OW := hide (own2.le (show w.heap.size + 2 ≤ w1.heap.size by omega))
  have S2 := hide s2
  have T2 := hide t2
  clear own own2 iv iw hge hge2 g rd rd2 B1 HS1 HT1 s2 t2 hs1 HR
  go_wp2_with fail
  have hne : w.heap.size ≠ w.heap.size + 1 := by omega
  have hF : ∀ x y z u : Value, ((((w2.setCell ⟨w.heap.size, 0, none⟩ x).setCell ⟨w.heap.size, 1, none⟩ y).setCell ⟨w.heap.size + 1, 0, none⟩ z).setCell ⟨w.heap.size + 1, 1, none⟩ u).heap[w.heap.size]? = some (.cells #[x, y] 25 (0, 0)) ∧ ((((w2.setCell ⟨w.heap.size, 0, none⟩ x).setCell ⟨w.heap.size, 1, none⟩ y).setCell ⟨w.heap.size + 1, 0, none⟩ z).setCell ⟨w.heap.size + 1, 1, none⟩ u).heap[w.heap.size + 1]? = some (.cells #[z, u] 27 (0, 0)) := fun x y z u => by
    have a1 := block_setCell (i := 1) (block_setCell (i := 0) S2.out x) y
    have a2 := (Below.heap_setCell (w2.setCell ⟨w.heap.size, 0, none⟩ x) ⟨w.heap.size, 1, none⟩ y _ (show w.heap.size + 1 ≠ w.heap.size by omega)).trans ((Below.heap_setCell w2 ⟨w.heap.size, 0, none⟩ x _ (show w.heap.size + 1 ≠ w.heap.size by omega)).trans T2.out)
    exact ⟨(Below.heap_setCell _ ⟨w.heap.size + 1, 1, none⟩ u _ hne).trans ((Below.heap_setCell _ ⟨w.heap.size + 1, 0, none⟩ z _ hne).trans a1), block_setCell (i := 1) (block_setCell (i := 0) a2 z) u⟩
  refine bodyPost_ret (ret_bothR rfl _ _ _ _ _ _ _ _ rfl rfl (hF _ _ _ _).1 (hF _ _ _ _).2) rfl ?_
  refine ⟨m, av, ss, cv, k, aw, ws, cw, rfl, ((OV.out.set2 (g := w.heap.size) (by omega) _ _).set2 (g := w.heap.size + 1) (by omega) _ _).ints, hsl.1, ((OW.out.set2 (g := w.heap.size) (by omega) _ _).set2 (g := w.heap.size + 1) (by omega) _ _).ints, hw, ?_⟩
  exact (((B2.out.setCell (p := ⟨w.heap.size, 0, none⟩) (Nat.le_refl _) _).setCell (p := ⟨w.heap.size, 1, none⟩) (Nat.le_refl _) _).setCell (p := ⟨w.heap.size + 1, 0, none⟩) (by show w.heap.size ≤ w.heap.size + 1; omega) _).setCell (p := ⟨w.heap.size + 1, 1, none⟩) (by show w.heap.size ≤ w.heap.size + 1; omega) _
set_option maxHeartbeats 4000000 in
set_option maxRecDepth 100000 in
theorem drawValidRule_any (a : Option Addr) (cap : Nat) (zs : List Nat) (w : World) (hi : Byts w a zs) (hl : zs.length ≤ 1048576) (hc : zs.length ≤ cap) :
    Calls Try.prog 29 #[.slice a zs.length cap] w (DrawSRPost w) := by
  have b0 := bel2 w (.cells #[.int .i64 0, .slice none 0 0] 25) (.cells #[.int .i64 0, .slice none 0 0] 27)
  have h0 := ((bel1 (w.alloc (.cells #[.int .i64 0, .slice none 0 0] 25)) (.cells #[.int .i64 0, .slice none 0 0] 27)).block w.heap.size (by simp)).trans (heap_alloc_new w (.cells #[.int .i64 0, .slice none 0 0] 25))
  have k0 := heap_alloc_new (w.alloc (.cells #[.int .i64 0, .slice none 0 0] 25)) (.cells #[.int .i64 0, .slice none 0 0] 27)
  simp only [World.size_alloc] at k0
  have hib := hi.below b0
  have H0 := hide h0
  have K0 := hide k0
  have HB0 := hide b0
  clear hi h0 b0 k0
  go_enter Try.func29, Try.ntmps29
  go_wp2_with fail
  refine (newReader_any _ _ _ _ hib hl hc).mono ?_
  rintro e w1 ⟨R, rfl, hR, rd, B⟩
  have hR' : w.heap.size + 2 ≤ R := by simpa using hR
  have HR := hide hR'
  have s1 := (B.block w.heap.size (by simp; omega)).trans H0.out
  have t1 := (B.block (w.heap.size + 1) (by simp)).trans K0.out
  have hs1 := lt_of_block t1
  have B1 := hide (bnext HB0.out B)
  have HS1 := hide s1
  have HT1 := hide t1
  clear hR hR' B hib s1 t1
  go_wp2_with fail
  refine (someRule_any R 0 _ rd (by omega)).mono ?_
  rintro e w2 ⟨m, v, ss, k, vv, ws, rfl, own, own2, hsl, hw, _, g, rd2⟩
  obtain ⟨av, cv, rfl, iv, hge⟩ := own.form
  obtain ⟨aw, cw, rfl, iw, hge2⟩ := own2.form
  have s2 := (g.block w.heap.size (by omega) (by have := HR.out; simp; omega)).trans HS1.out
  have t2 := (g.block (w.heap.size + 1) hs1 (by have := HR.out; simp; omega)).trans HT1.out
  have B2 := hide (bgrown B1.out g B1.out.size (fun j hj => by cases hj; have := HR.out; omega))
  have q0 := cell_of_block s2 0
  have q1 := cell_of_block s2 1
  have k0 := unfrozen_of_block s2 0
  have k1 := unfrozen_of_block s2 1
  have p0 := cell_of_block t2 0
  have p1 := cell_of_block t2 1
  have o0 := unfrozen_of_block t2 0
  have o1 := unfrozen_of_block t2 1
  have OV := hide (own.le (show w.heap.size + 2 ≤ w1.heap.size by omega))
  have OW := hide (own2.le (show w.heap.size + 2 ≤ w1.heap.size by omega))
  have S2 := hide s2
  have T2 := hide t2
  clear own own2 iv iw hge hge2 g rd rd2 B1 HS1 HT1 s2 t2 hs1 HR
  go_wp2_with fail
  have hne : w.heap.size ≠ w.heap.size + 1 := by omega
  have hF : ∀ x y z u : Value, ((((w2.setCell ⟨w.heap.size, 0, none⟩ x).setCell ⟨w.heap.size, 1, none⟩ y).setCell ⟨w.heap.size + 1, 0, none⟩ z).setCell ⟨w.heap.size + 1, 1, none⟩ u).heap[w.heap.size]? = some (.cells #[x, y] 25 (0, 0)) ∧ ((((w2.setCell ⟨w.heap.size, 0, none⟩ x).setCell ⟨w.heap.size, 1, none⟩ y).setCell ⟨w.heap.size + 1, 0, none⟩ z).setCell ⟨w.heap.size + 1, 1, none⟩ u).heap[w.heap.size + 1]? = some (.cells #[z, u] 27 (0, 0)) := fun x y z u => by
    have a1 := block_setCell (i := 1) (block_setCell (i := 0) S2.out x) y
    have a2 := (Below.heap_setCell (w2.setCell ⟨w.heap.size, 0, none⟩ x) ⟨w.heap.size, 1, none⟩ y _ (show w.heap.size + 1 ≠ w.heap.size by omega)).trans ((Below.heap_setCell w2 ⟨w.heap.size, 0, none⟩ x _ (show w.heap.size + 1 ≠ w.heap.size by omega)).trans T2.out)
    exact ⟨(Below.heap_setCell _ ⟨w.heap.size + 1, 1, none⟩ u _ hne).trans ((Below.heap_setCell _ ⟨w.heap.size + 1, 0, none⟩ z _ hne).trans a1), block_setCell (i := 1) (block_setCell (i := 0) a2 z) u⟩
  refine bodyPost_ret (ret_bothR rfl _ _ _ _ _ _ _ _ rfl rfl (hF _ _ _ _).1 (hF _ _ _ _).2) rfl ?_
  refine ⟨m, av, ss, cv, k, aw, ws, cw, rfl, ((OV.out.set2 (g := w.heap.size) (by omega) _ _).set2 (g := w.heap.size + 1) (by omega) _ _).ints, hsl.1, ((OW.out.set2 (g := w.heap.size) (by omega) _ _).set2 (g := w.heap.size + 1) (by omega) _ _).ints, hw, ?_⟩
  exact (((B2.out.setCell (p := ⟨w.heap.size, 0, none⟩) (Nat.le_refl _) _).setCell (p := ⟨w.heap.size, 1, none⟩) (Nat.le_refl _) _).setCell (p := ⟨w.heap.size + 1, 0, none⟩) (by show w.heap.size ≤ w.heap.size + 1; omega) _).setCell (p := ⟨w.heap.size + 1, 1, none⟩) (by show w.heap.size ≤ w.heap.size + 1; omega) _
end Go.Proofs.Ytnmfhnieknckcaa
