/- A space, a rule and votes drawn: the draw of ApplyRule. -/
import Derived.Test.YtklfpbidbiippaaDrawR3
import Derived.Test.YtklfpbidbiippaaDrawT
namespace Go.Proofs.Ytklfpbidbiippaa
open Go.RowKit Go.Joins

/-- two results in cells, a space and a rule, and one in a slot -/
theorem ret_SRL {fn : Func} {p q r : Tmp} (h : fn.results = #[.cell p 25, .cell q 41, .tmp r]) (tmps : Array Value) (w : World) (g k : Nat) (x y c b l : Value)
    (hp : tmps.getD p undef = .pointer (some ⟨g, 0, none⟩)) (hq : tmps.getD q undef = .pointer (some ⟨k, 0, none⟩)) (hl : tmps.getD r undef = l) (hw : w.heap[g]? = some (.cells #[x, y] 25 (0, 0))) (hk : w.heap[k]? = some (.cells #[c, b] 41 (0, 0))) :
    (results fn tmps).run Try.prog w = .ok (.tuple #[.agg #[x, y], .agg #[c, b], l]) w := by
  have c0 := cell_of_block hw 0
  have c1 := cell_of_block hw 1
  have k0 := cell_of_block hk 0
  have k1 := cell_of_block hk 1
  have hr : (results fn tmps).run Try.prog w = ((asAddr (tmps.getD p undef)).run Try.prog w).andThen fun a w₁ => ((loadVar 25 a).run Try.prog w₁).andThen fun v w₂ => ((asAddr (tmps.getD q undef)).run Try.prog w₂).andThen fun a w₃ => ((loadVar 41 a).run Try.prog w₃).andThen fun u w₄ => .ok (.tuple #[v, u, tmps.getD r undef]) w₄ := by
    simp only [results, h]
    simp [Sem.run_bind, Result.andThen]
  rw [hr, hp, hq, hl]
  simp [go_sem] at c0 c1 k0 k1 ⊢
  simp [c0, c1, k0, k1, go_sem]
/-- What the draw leaves. -/
def DrawSRLPost (w : World) (e : Ending) (w' : World) : Prop :=
  ∃ (m : Int) (a : Option Addr) (zs : List Int) (cap : Nat) (v : Int) (b : Option Addr) (ws : List Int) (capb : Nat) (l : Option Addr) (ls : List Int) (capl : Nat), e = .returned (.tuple #[.agg #[.int .i64 m, .slice a zs.length cap], .agg #[.int .i64 v, .slice b ws.length capb], .slice l ls.length capl]) ∧ Ints w' a zs ∧ zs.length ≤ 65 ∧ Ints w' b ws ∧ ws.length ≤ 8 ∧ Ints w' l ls ∧ ls.length ≤ 10 ∧ Below w.heap.size w w'
/-- all under way -/
def AI (w : World) (R n : Nat) (m : Int) (v : Value) (zs : List Int) (k : Int) (vv : Value) (ws : List Int) (S B6 B7 K : Nat) (wq : World) : Prop :=
  wq.heap[w.heap.size]? = some (.cells #[.int .i64 0, .slice none 0 0] 25 (0, 0)) ∧ wq.heap[w.heap.size + 1]? = some (.cells #[.int .i64 0, .slice none 0 0] 41 (0, 0)) ∧
  wq.heap[B6]? = some (.cells #[.int .i64 m, v] 25 (0, 0)) ∧ wq.heap[B7]? = some (.cells #[.int .i64 k, vv] 41 (0, 0)) ∧
  (∃ q1, wq.ownsRow S 3 1 v zs.length (zs.map (Value.int .i64)) ∧ q1 = v.ownBlock ∧ ∀ g, q1 = some g → g < B6) ∧ (∃ q2, wq.ownsRow S 3 1 vv ws.length (ws.map (Value.int .i64)) ∧ q2 = vv.ownBlock ∧ ∀ g, q2 = some g → g < B6) ∧
  Below w.heap.size w wq ∧ RD wq R n ∧ (w.heap.size + 2 ≤ R ∧ R < S ∧ S ≤ B6 ∧ B6 < B7 ∧ B7 < K ∧ K ≤ wq.heap.size)
theorem AI.rd {w : World} {R n : Nat} {m k : Int} {v vv : Value} {zs ws : List Int} {S B6 B7 K : Nat} {wq : World} (h : AI w R n m v zs k vv ws S B6 B7 K wq) : RD wq R n := h.2.2.2.2.2.2.2.1
theorem AI.sizes {w : World} {R n : Nat} {m k : Int} {v vv : Value} {zs ws : List Int} {S B6 B7 K : Nat} {wq : World} (h : AI w R n m v zs k vv ws S B6 B7 K wq) : w.heap.size + 2 ≤ R ∧ R < S ∧ S ≤ B6 ∧ B6 < B7 ∧ B7 < K ∧ K ≤ wq.heap.size := h.2.2.2.2.2.2.2.2
theorem AI.owns {w : World} {R n : Nat} {m k : Int} {v vv : Value} {zs ws : List Int} {S B6 B7 K : Nat} {wq : World} (h : AI w R n m v zs k vv ws S B6 B7 K wq) : Owns wq S v zs ∧ Owns wq S vv ws := ⟨h.2.2.2.2.1.elim fun _ x => x.1, h.2.2.2.2.2.1.elim fun _ x => x.1⟩
/-- a world in which only a block is other, the reader's or one of the votes' -/
theorem AI.grown {w : World} {R n n' : Nat} {m k : Int} {v vv : Value} {zs ws : List Int} {S B6 B7 K : Nat} {wq w' : World} {row : Option Nat} (h : AI w R n m v zs k vv ws S B6 B7 K wq) (hg : wq.grownBy w' row) (hrow : ∀ g, row = some g → g = R ∨ K ≤ g) (hr : RD w' R n') : AI w R n' m v zs k vv ws S B6 B7 K w' := by
  obtain ⟨h1, h2, h3, h4, ⟨q1, h5, e5, h5'⟩, ⟨q2, h6, e6, h6'⟩, h7, _, h9⟩ := h
  have blk : ∀ j o, wq.heap[j]? = some o → j < K → j ≠ R → w'.heap[j]? = some o := fun j o hj hjK hjR => (hg.block j (lt_of_block hj) (fun e => by rcases hrow j e.symm with h | h <;> omega)).trans hj
  have own : ∀ (u : Value) (xs : List Int) (q : Option Nat), q = u.ownBlock → (∀ g, q = some g → g < B6) → wq.ownsRow S 3 1 u xs.length (xs.map (Value.int .i64)) → w'.ownsRow S 3 1 u xs.length (xs.map (Value.int .i64)) := fun u xs q hq hlt ho => World.ownsRow.kept ho hg (by
    rcases hu : u.ownBlock with _ | g
    · exact .inl rfl
    · right
      intro e
      have h1 := (World.ownsRow.lt ho g hu).1
      have h2 := hlt g (hq.trans hu)
      rcases hrow g e.symm with h | h <;> omega)
  exact ⟨blk _ _ h1 (by omega) (by omega), blk _ _ h2 (by omega) (by omega), blk _ _ h3 (by omega) (by omega), blk _ _ h4 (by omega) (by omega), ⟨q1, own v zs q1 e5 h5' h5, e5, h5'⟩, ⟨q2, own vv ws q2 e6 h6' h6, e6, h6'⟩, bgrown h7 hg h7.size (fun g e => by rcases hrow g e with h | h <;> omega), hr, by have := hg.size; omega⟩
theorem AI.below {w : World} {R n : Nat} {m k : Int} {v vv : Value} {zs ws : List Int} {S B6 B7 K : Nat} {wq w' : World} (h : AI w R n m v zs k vv ws S B6 B7 K wq) (hb : Below wq.heap.size wq w') : AI w R n m v zs k vv ws S B6 B7 K w' :=
  h.grown (row := none) ⟨hb.os, hb.tape, hb.output, hb.size, fun j hj _ => hb.block j hj⟩ (fun g e => by cases e) (h.rd.below hb)
theorem AI.pick {w : World} {R n n' : Nat} {m k : Int} {v vv : Value} {zs ws : List Int} {S B6 B7 K : Nat} {wq w' : World} (h : AI w R n m v zs k vv ws S B6 B7 K wq) (hg : wq.grownBy w' (some R)) (hr : RD w' R n') : AI w R n' m v zs k vv ws S B6 B7 K w' :=
  h.grown hg (fun g e => by cases e; exact Or.inl rfl) hr
theorem AI.push {w : World} {R n : Nat} {m k : Int} {v vv : Value} {zs ws : List Int} {S B6 B7 K : Nat} {wq w' : World} {row : Option Nat} (h : AI w R n m v zs k vv ws S B6 B7 K wq) (hg : wq.grownBy w' row) (hrow : ∀ g, row = some g → K ≤ g) : AI w R n m v zs k vv ws S B6 B7 K w' :=
  h.grown hg (fun g e => Or.inr (hrow g e)) (h.rd.grown hg (fun g e => by have := hrow g e; have := h.sizes; omega))
theorem AI.more {w : World} {R n n' : Nat} {m k : Int} {v vv : Value} {zs ws : List Int} {S B6 B7 K : Nat} {wq : World} (h : AI w R n m v zs k vv ws S B6 B7 K wq) (hn : n ≤ n') : AI w R n' m v zs k vv ws S B6 B7 K wq :=
  ⟨h.1, h.2.1, h.2.2.1, h.2.2.2.1, h.2.2.2.2.1, h.2.2.2.2.2.1, h.2.2.2.2.2.2.1, h.rd.more hn, h.sizes⟩
/-- the four last stores -/
theorem AI.fin {w : World} {R n : Nat} {m k : Int} {a b : Option Addr} {cv cw : Nat} {zs ws : List Int} {S B6 B7 K : Nat} {wq : World} (h : AI w R n m (.slice a zs.length cv) zs k (.slice b ws.length cw) ws S B6 B7 K wq) {l : Option Addr} {ls : List Int} {cl : Nat} {base : Nat} (ho : Owns wq base (.slice l ls.length cl) ls) (hbase : w.heap.size + 2 ≤ base) (hz : zs.length ≤ 65) (hw : ws.length ≤ 8) (hl : ls.length ≤ 10) (x y z u : Value) :
    ((((wq.setCell ⟨w.heap.size, 0, none⟩ x).setCell ⟨w.heap.size, 1, none⟩ y).setCell ⟨w.heap.size + 1, 0, none⟩ z).setCell ⟨w.heap.size + 1, 1, none⟩ u).heap[w.heap.size]? = some (.cells #[x, y] 25 (0, 0)) ∧
    ((((wq.setCell ⟨w.heap.size, 0, none⟩ x).setCell ⟨w.heap.size, 1, none⟩ y).setCell ⟨w.heap.size + 1, 0, none⟩ z).setCell ⟨w.heap.size + 1, 1, none⟩ u).heap[w.heap.size + 1]? = some (.cells #[z, u] 41 (0, 0)) ∧
    DrawSRLPost w (.returned (.tuple #[.agg #[.int .i64 m, .slice a zs.length cv], .agg #[.int .i64 k, .slice b ws.length cw], .slice l ls.length cl])) ((((wq.setCell ⟨w.heap.size, 0, none⟩ x).setCell ⟨w.heap.size, 1, none⟩ y).setCell ⟨w.heap.size + 1, 0, none⟩ z).setCell ⟨w.heap.size + 1, 1, none⟩ u) := by
  have hs := h.sizes
  obtain ⟨o1, o2⟩ := h.owns
  obtain ⟨h1, h2, _, _, _, _, h7, _, _⟩ := h
  have hne : w.heap.size ≠ w.heap.size + 1 := by omega
  have a1 := block_setCell (i := 1) (block_setCell (i := 0) h1 x) y
  have a2 := (Below.heap_setCell (wq.setCell ⟨w.heap.size, 0, none⟩ x) ⟨w.heap.size, 1, none⟩ y _ (show w.heap.size + 1 ≠ w.heap.size by omega)).trans ((Below.heap_setCell wq ⟨w.heap.size, 0, none⟩ x _ (show w.heap.size + 1 ≠ w.heap.size by omega)).trans h2)
  have four : ∀ {base : Nat} {q : Value} {xs : List Int}, Owns wq base q xs → w.heap.size + 2 ≤ base → Owns ((((wq.setCell ⟨w.heap.size, 0, none⟩ x).setCell ⟨w.heap.size, 1, none⟩ y).setCell ⟨w.heap.size + 1, 0, none⟩ z).setCell ⟨w.heap.size + 1, 1, none⟩ u) base q xs := fun ho hb => (ho.set2 (g := w.heap.size) (by omega) x y).set2 (g := w.heap.size + 1) (by omega) z u
  refine ⟨(Below.heap_setCell _ ⟨w.heap.size + 1, 1, none⟩ u _ hne).trans ((Below.heap_setCell _ ⟨w.heap.size + 1, 0, none⟩ z _ hne).trans a1), block_setCell (i := 1) (block_setCell (i := 0) a2 z) u, m, a, zs, cv, k, b, ws, cw, l, ls, cl, rfl, (four o1 (by omega)).ints, hz, (four o2 (by omega)).ints, hw, (four ho hbase).ints, hl, ?_⟩
  exact (((h7.setCell (p := ⟨w.heap.size, 0, none⟩) (Nat.le_refl _) _).setCell (p := ⟨w.heap.size, 1, none⟩) (Nat.le_refl _) _).setCell (p := ⟨w.heap.size + 1, 0, none⟩) (by show w.heap.size ≤ w.heap.size + 1; omega) _).setCell (p := ⟨w.heap.size + 1, 1, none⟩) (by show w.heap.size ≤ w.heap.size + 1; omega) _

set_option maxHeartbeats 8000000 in
set_option maxRecDepth 100000 in
theorem drawApplyRule_any (a : Option Addr) (cap : Nat) (zs : List Nat) (w : World) (hi : Byts w a zs) (hl : zs.length ≤ 1048576) (hc : zs.length ≤ cap) :
    Calls Try.prog 46 #[.slice a zs.length cap] w (DrawSRLPost w) := by
  obtain ⟨i0, hi0, hz0, hz1, hz2⟩ := info_parts info_int
  have b0 := bel2 w (.cells #[.int .i64 0, .slice none 0 0] 25) (.cells #[.int .i64 0, .slice none 0 0] 41)
  have h0 := ((bel1 (w.alloc (.cells #[.int .i64 0, .slice none 0 0] 25)) (.cells #[.int .i64 0, .slice none 0 0] 41)).block w.heap.size (by simp)).trans (heap_alloc_new w (.cells #[.int .i64 0, .slice none 0 0] 25))
  have k0 := heap_alloc_new (w.alloc (.cells #[.int .i64 0, .slice none 0 0] 25)) (.cells #[.int .i64 0, .slice none 0 0] 41)
  simp only [World.size_alloc] at k0
  have hib := hi.below b0
  have H0 := hide h0
  have K0 := hide k0
  have HB0 := hide b0
  clear hi h0 b0 k0
  go_enter Try.func46, Try.ntmps46
  go_wp2_with fail
  refine (newReader_any _ _ _ _ hib hl hc).mono ?_
  rintro e w1 ⟨R, rfl, hR, rd, B⟩
  have hR' : w.heap.size + 2 ≤ R := by simpa using hR
  have s1 := (B.block w.heap.size (by simp; omega)).trans H0.out
  have t1 := (B.block (w.heap.size + 1) (by simp)).trans K0.out
  have B1 := bnext HB0.out B
  have hRl := rd.lt
  have HS1 := hide s1
  have HT1 := hide t1
  have HB1 := hide B1
  have HR := hide hR'
  have HRL := hide hRl
  clear hR hR' B hib s1 t1 B1 hRl H0 K0 HB0
  go_wp2_with fail
  refine (someRule_any R 0 _ rd (by omega)).mono ?_
  rintro e w2 ⟨m, v, ss, k, vv, ws, rfl, own, own2, hsl, hw, hk4, g, rd2⟩
  have hw12 := g.size
  have A2 : AI w R 56 m v ss k vv ws w1.heap.size w2.heap.size (w2.heap.size + 1) (w2.heap.size + 2) ((w2.alloc (.cells #[.int .i64 m, v] 25)).alloc (.cells #[.int .i64 k, vv] 41)) := by
    have bb := bel2 w2 (.cells #[.int .i64 m, v] 25) (.cells #[.int .i64 k, vv] 41)
    have s2 := (g.block w.heap.size (lt_of_block HS1.out) (by have := HR.out; simp; omega)).trans HS1.out
    have t2 := (g.block (w.heap.size + 1) (lt_of_block HT1.out) (by have := HR.out; simp; omega)).trans HT1.out
    have B2 := bgrown HB1.out g HB1.out.size (fun j hj => by cases hj; have := HR.out; omega)
    have z6 := ((bel1 (w2.alloc (.cells #[.int .i64 m, v] 25)) (.cells #[.int .i64 k, vv] 41)).block w2.heap.size (by simp)).trans (heap_alloc_new w2 (.cells #[.int .i64 m, v] 25))
    have z7 := heap_alloc_new (w2.alloc (.cells #[.int .i64 m, v] 25)) (.cells #[.int .i64 k, vv] 41)
    simp only [World.size_alloc] at z7
    exact ⟨(bb.block _ (lt_of_block s2)).trans s2, (bb.block _ (lt_of_block t2)).trans t2, z6, z7, ⟨_, own.below bb, rfl, fun g hg => (own_lt own g hg)⟩, ⟨_, own2.below bb, rfl, fun g hg => (own_lt own2 g hg)⟩, bnext B2 bb, rd2.below bb, HR.out, HRL.out, hw12, by omega, by omega, by simp⟩
  obtain ⟨av, cv, rfl, _, hge⟩ := own.form
  obtain ⟨aw, cw, rfl, _, _⟩ := own2.form
  have HGE : Hid (∀ b o s, av = some ⟨b, o, s⟩ → b ≠ R) := fun b o s e => by have h1 := (hge b o s e).1; have h2 := HRL.out; omega
  obtain ⟨S, hS⟩ : ∃ S, S = w1.heap.size := ⟨_, rfl⟩
  obtain ⟨W, hW⟩ : ∃ W : World, W = (w2.alloc (.cells #[.int .i64 m, .slice av ss.length cv] 25)).alloc (.cells #[.int .i64 k, .slice aw ws.length cw] 41) := ⟨_, rfl⟩
  rw [← hS, ← hW] at A2
  have hWs : W.heap.size = w2.heap.size + 1 + 1 := by rw [hW]; simp
  have HA2 := hide A2
  have HSL := hide hsl
  have HW := hide hw
  have HWS := hide hWs
  have HWE := hide hW
  clear own own2 hsl hw g rd rd2 HS1 HT1 A2 HB1 hge hS hWs hW HR HRL hw12
  go_wp2_with fail
  rw [← HWE.out]
  obtain ⟨B6, hB6⟩ : ∃ B6, B6 = w2.heap.size := ⟨_, rfl⟩
  rw [← hB6] at HA2 HWS ⊢
  clear HWE hB6
  have he := Owns.empty W (base := B6 + 2) (by have := HWS.out; omega)
  rw [HWS.out] at he
  have A3 := HA2.out.below (bel1 W (.cells #[] 3))
  have HE := hide he
  have HA3 := hide A3
  clear he A3 HA2 HWS
  go_wp2_with fail
  go_loopw [8] (fun lv wq => ∃ vs : List Int, vs.length ≤ 4 ∧ AI w R (56 + 2 * vs.length) m (.slice av ss.length cv) ss k (.slice aw ws.length cw) ws S B6 (B6 + 1) (B6 + 2) wq ∧ Owns wq (B6 + 2) lv vs) (fun lv _ => lackOf 5 lv)
  case atStart => exact ⟨[], by simp, HA3.out, HE.out⟩
  case round =>
    clear HA3 HE
    obtain ⟨vs, hvs, hA, hown⟩ := hrel
    obtain ⟨lva, lvc, rfl, _, _⟩ := hown.form
    have c70 := cell_of_block hA.2.2.2.1 0
    have c60 := cell_of_block hA.2.2.1 0
    have c61 := cell_of_block hA.2.2.1 1
    have HA := hide hA
    have HO := hide hown
    clear hA hown
    by_cases hlt : (vs.length : Int) < k
    · go_wp2_with fail
      refine (judgmentOf_any R _ m _ _ _ _ HA.out.rd (by omega) HA.out.owns.1.ints HSL.out.1 HGE.out).mono ?_
      rintro e w3 ⟨x, rfl, g3, rd3⟩
      have A4 := HA.out.pick g3 rd3
      have hsz := A4.sizes
      have hown3 : w3.ownsRow (B6 + 2) 3 1 (.slice lva vs.length lvc) vs.length (vs.map (Value.int .i64)) := HO.out.other g3 (fun g e => by cases e; omega)
      have HA4 := hide A4
      clear g3 rd3 c70 c60 c61 HA HO A4
      go_wp2_with ((at_builtin; refine wpList_append_own _ rfl _ _ 23 rfl (B6 + 2) 3 i0 (.int .i64 0) 1 8 Try.underlying23 hi0 hz0 hz1 hz2 rfl (by decide) _ _ _ rfl (hown3.alloc _) ⟨w3.heap.size, 0, none⟩ 1 1 [.int .i64 x] rfl rfl (cell_one_new w3 _ _) (by intro u hu; simp at hu; subst hu; rfl) (by unfold maxLen; omega) (by omega) (by first | omega | (simp; omega)) ?_))
      intro v' w5 hown' hgrow _
      have hpush := hide (Owns.push hown')
      have hge5 := fun j hj => (hown3.lt j hj).1
      have A5 := hide ((HA4.out.below (bel1 w3 (.cells #[.int .i64 x] 3))).push hgrow hge5)
      obtain ⟨zz, hzz⟩ : ∃ zz : List Int, zz = vs ++ [x] := ⟨_, rfl⟩
      have hzl : zz.length = vs.length + 1 := by rw [hzz, List.length_append]; rfl
      rw [← hzz] at hpush
      obtain ⟨qa, qc, rfl, _⟩ := hpush.out.form
      have HZ := hide hzl
      clear hown3 hown' hgrow hge5 hzz hzl HA4
      go_wp2_with fail
      go_roundw
      case rel => exact ⟨zz, by have := HZ.out; omega, A5.out.more (by have := HZ.out; omega), hpush.out⟩
      case measure => simp only [lackOf]; have := HZ.out; omega
    · go_wp2_with fail
      refine (pick_any R _ _ _ HA.out.rd (by omega) ⟨by omega, by omega⟩).mono ?_
      rintro e w3 ⟨r, rfl, _, _, _, g3, rd3⟩
      have A4 := hide (HA.out.pick g3 rd3)
      have hsz := A4.out.sizes
      have O4 := hide (HO.out.other g3 (fun g e => by cases e; omega))
      have A5 := hide (A4.out.below (bdrew' (Below.refl _ _)))
      have O5 := hide (O4.out.below (bdrew' (Below.refl _ _)))
      have HSZ : Hid (w.heap.size + 2 ≤ w3.drew.heap.size) := by
        have h1 := A5.out.sizes
        unfold Hid
        omega
      have HB5 : Hid (w.heap.size + 2 ≤ B6 + 2) := by
        unfold Hid
        omega
      have hB1 : ¬ (B6 + 1 = w.heap.size) := by have h1 := A5.out.sizes; omega
      have hB2 : ¬ (B6 = w.heap.size) := by have h1 := A5.out.sizes; omega
      have hB3 : ¬ (B6 = w.heap.size + 1) := by have h1 := A5.out.sizes; omega
      have hA4 := A5.out
      have d60 := cell_of_block hA4.2.2.1 0
      have d61 := cell_of_block hA4.2.2.1 1
      have d70 := cell_of_block hA4.2.2.2.1 0
      have d71 := cell_of_block hA4.2.2.2.1 1
      have e00 := cell_of_block hA4.1 0
      have e01 := cell_of_block hA4.1 1
      have e10 := cell_of_block hA4.2.1 0
      have e11 := cell_of_block hA4.2.1 1
      have f00 := unfrozen_of_block hA4.1 0
      have f01 := unfrozen_of_block hA4.1 1
      have f10 := unfrozen_of_block hA4.2.1 0
      have f11 := unfrozen_of_block hA4.2.1 1
      have hA3 := A4.out
      have d60' := cell_of_block hA3.2.2.1 0
      have d61' := cell_of_block hA3.2.2.1 1
      have d70' := cell_of_block hA3.2.2.2.1 0
      have d71' := cell_of_block hA3.2.2.2.1 1
      have e00' := cell_of_block hA3.1 0
      have e01' := cell_of_block hA3.1 1
      have e10' := cell_of_block hA3.2.1 0
      have e11' := cell_of_block hA3.2.1 1
      have f00' := unfrozen_of_block hA3.1 0
      have f01' := unfrozen_of_block hA3.1 1
      have f10' := unfrozen_of_block hA3.2.1 0
      have f11' := unfrozen_of_block hA3.2.1 1
      have HVS := hide (show vs.length ≤ 10 by omega)
      clear g3 rd3 c70 c60 c61 HA HO hA4 hA3 A4 O4 hsz
      by_cases e0 : (r == 0) = true
      · go_wp2_with fail
        go_region_with ((go_at_call 115; refine (votesOf_any R _ m _ _ _ _ A5.out.rd (by omega) A5.out.owns.1.ints HSL.out.1 HGE.out).mono ?_; rintro e w5 ⟨v5, ls, rfl, ow5, hl5, g5, rd5⟩; have A6 := hide (A5.out.pick g5 rd5); obtain ⟨la, lc, rfl, _, _⟩ := ow5.form; have O6 := hide ow5; have HL6 := hide hl5; have n60 := cell_of_block A6.out.2.2.1 0; have n61 := cell_of_block A6.out.2.2.1 1; have n70 := cell_of_block A6.out.2.2.2.1 0; have n71 := cell_of_block A6.out.2.2.2.1 1; have q00 := cell_of_block A6.out.1 0; have q01 := cell_of_block A6.out.1 1; have q10 := cell_of_block A6.out.2.1 0; have q11 := cell_of_block A6.out.2.1 1; have k00 := unfrozen_of_block A6.out.1 0; have k01 := unfrozen_of_block A6.out.1 1; have k10 := unfrozen_of_block A6.out.2.1 0; have k11 := unfrozen_of_block A6.out.2.1 1; clear g5 rd5 ow5 hl5))
        all_goals
          go_wp2_with fail
          refine bodyPost_ret (ret_SRL rfl _ _ _ _ _ _ _ _ _ rfl rfl rfl (A6.out.fin O6.out HSZ.out HSL.out.1 HW.out HL6.out _ _ _ _).1 (A6.out.fin O6.out HSZ.out HSL.out.1 HW.out HL6.out _ _ _ _).2.1) rfl ?_
          exact (A6.out.fin O6.out HSZ.out HSL.out.1 HW.out HL6.out _ _ _ _).2.2
      · have e0 : (r == 0) = false := by simpa using e0
        go_wp2_with fail
        go_region
        all_goals
          go_wp2_with fail
          refine bodyPost_ret (ret_SRL rfl _ _ _ _ _ _ _ _ _ rfl rfl rfl (A5.out.fin O5.out HB5.out HSL.out.1 HW.out HVS.out _ _ _ _).1 (A5.out.fin O5.out HB5.out HSL.out.1 HW.out HVS.out _ _ _ _).2.1) rfl ?_
          exact (A5.out.fin O5.out HB5.out HSL.out.1 HW.out HVS.out _ _ _ _).2.2
end Go.Proofs.Ytklfpbidbiippaa
