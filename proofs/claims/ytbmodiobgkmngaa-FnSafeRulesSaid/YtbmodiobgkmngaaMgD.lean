/- Texts of this seat one behind the other: DrawN, DrawM, DrawC, DrawSf. Conditions: none. -/
import Derived.Test.YtbmodiobgkmngaaDraw
import Derived.Handy
import Derived.Outline
import Derived.BigRegion
import Derived.OwnWalk
import Derived.Deep.RegionLaw
import Derived.Deep.AppendLies

/- DrawN: The model's draws of spaces, of numbers of answers and of judgments. -/
namespace Go.Proofs.Ytbmodiobgkmngaa
open Go.RowKit Go.Joins

theorem lit5d (w : World) (a b c d e : Int) : Ints (w.alloc (.cells #[.int .i64 a, .int .i64 b, .int .i64 c, .int .i64 d, .int .i64 e] 3)) (some ⟨w.heap.size, 0, none⟩) [a, b, c, d, e] := fun _ =>
  ⟨w.heap.size, 0, rfl, by simp, fun k hk => by
    match k, hk with
    | 0, _ => simp [go_sem]
    | 1, _ => simp [go_sem]
    | 2, _ => simp [go_sem]
    | 3, _ => simp [go_sem]
    | 4, _ => simp [go_sem]⟩

/-- an answer's cells and the reader -/
def QI (R : Nat) (w : World) (n : Nat) (wq : World) : Prop :=
  wq.heap[w.heap.size]? = some (.cells #[.int .i64 0, .slice none 0 0] 25 (0, 0)) ∧ w.grownBy wq (some R) ∧ RD wq R n ∧ w.heap.size + 1 ≤ wq.heap.size ∧ R < w.heap.size
theorem QI.new {R : Nat} {w : World} {n : Nat} (h : RD w R n) : QI R w n (w.alloc (.cells #[.int .i64 0, .slice none 0 0] 25)) :=
  ⟨heap_alloc_new w _, gbelow (grefl0 w R) (bel1 w _), h.below (bel1 w _), by simp, h.lt⟩
theorem QI.below {R : Nat} {w : World} {n : Nat} {wq w' : World} (h : QI R w n wq) (hb : Below wq.heap.size wq w') : QI R w n w' := by
  obtain ⟨h1, h2, h3, h4, h5⟩ := h
  exact ⟨(hb.block _ (by omega)).trans h1, gbelow h2 (hb.mono (by omega)), h3.below hb, Nat.le_trans h4 hb.size, h5⟩
theorem QI.pick {R : Nat} {w : World} {n k : Nat} {wq w' : World} (h : QI R w n wq) (hg : wq.grownBy w' (some R)) (hr : RD w' R k) : QI R w k w' := by
  obtain ⟨h1, h2, _, h4, h5⟩ := h
  exact ⟨(hg.block _ (by omega) (by simp; omega)).trans h1, gpick h2 hg, hr, Nat.le_trans h4 hg.size, h5⟩
theorem QI.done {R : Nat} {w : World} {m : Int} {n k : Nat} {v : Value} {zs : List Int} {wq : World} (h : QI R w n wq) (ho : Owns wq (w.heap.size + 1) v zs) (hl : zs.length ≤ 64 ∧ m ≤ 5) (hk : n ≤ k) (x y : Value) :
    SpacePost R k w (.returned (.agg #[.int .i64 m, v])) ((wq.setCell ⟨w.heap.size, 0, none⟩ x).setCell ⟨w.heap.size, 1, none⟩ y) := by
  obtain ⟨_, h2, h3, _, h5⟩ := h
  exact ⟨m, v, zs, rfl, (ho.set2 (by omega) _ _).le (by omega), hl, gbelow (gbelow h2 ((Below.refl _ _).setCell (p := ⟨w.heap.size, 0, none⟩) (Nat.le_refl _) _)) ((Below.refl _ _).setCell (p := ⟨w.heap.size, 1, none⟩) (Nat.le_refl _) _), ((h3.set h5).set h5).more hk⟩

set_option maxHeartbeats 2000000 in
set_option maxRecDepth 100000 in
theorem goodSpace_any (R n : Nat) (w : World) (hr : RD w R n) (hn : n < 1073740000) :
    Calls Try.prog 49 #[.pointer (some ⟨R, 0, none⟩)] w (SpacePost R (n + 41) w) := by
  have h0 := QI.new hr
  have hRw := h0.2.2.2.2
  have hl5 := lit5d (w.alloc (.cells #[.int .i64 0, .slice none 0 0] 25)) 3 3 4 2 1
  have h1 := h0.below (bel1 (w.alloc (.cells #[.int .i64 0, .slice none 0 0] 25)) (.cells #[.int .i64 3, .int .i64 3, .int .i64 4, .int .i64 2, .int .i64 1] 3))
  simp only [World.size_alloc] at hl5
  have HQ := hide h1
  clear h0 h1
  go_enter Try.func49, Try.ntmps49
  go_wp2_with fail
  have ho := one_any R n 5 _ _ _ HQ.out.2.2.1 (by omega) hl5 (by simp) (by simp) (fun b o s e => by cases e; omega)
  refine ho.mono ?_
  rintro e w2 ⟨x, hx, rfl, g, rd⟩
  have h2 := HQ.out.pick g rd
  have hx' : 1 ≤ x ∧ x ≤ 4 := by
    simp only [List.mem_cons, List.not_mem_nil, or_false] at hx
    omega
  clear hx ho g hl5
  go_wp2_with fail
  refine (spaceOf_any R (n + 1) x _ rd (by omega) hx'.1 hx'.2).mono ?_
  rintro e w3 ⟨m, v, zs, rfl, hown, hl, g, rd3⟩
  have h3 := h2.pick g rd3
  obtain ⟨av, cv, rfl, iv, _⟩ := hown.form
  have f0 := unfrozen_of_block h3.1 0
  have f1 := unfrozen_of_block h3.1 1
  have r0 := cell_of_block h3.1 0
  have r1 := cell_of_block h3.1 1
  have H3 := hide h3
  have HO := hide (hown.le h2.2.2.2.1)
  clear iv hown h2 h3 rd rd3 g
  go_wp2_with fail
  refine bodyPost_ret (ret_space rfl _ _ _ _ _ rfl (block_setCell (i := 1) (block_setCell (i := 0) H3.out.1 _) _)) rfl ?_
  exact H3.out.done HO.out hl (by omega) _ _

/-- What a draw of a number leaves: between -1 and 16. -/
def NumPost (R n : Nat) (w : World) (e : Ending) (w' : World) : Prop :=
  ∃ x : Int, e = .returned (.int .i64 x) ∧ (-1 ≤ x ∧ x ≤ 16) ∧ w.grownBy w' (some R) ∧ RD w' R n

end Go.Proofs.Ytbmodiobgkmngaa

/- DrawM: The model's draw of a space that may be none. -/
namespace Go.Proofs.Ytbmodiobgkmngaa
open Go.RowKit Go.Joins

theorem QI.set {R : Nat} {w : World} {n S i : Nat} {u : Value} {wq : World} (h : QI R w n wq) (hS : w.heap.size < S) : QI R w n (wq.setCell ⟨S, i, none⟩ u) := by
  obtain ⟨h1, h2, h3, h4, h5⟩ := h
  exact ⟨(Below.heap_setCell _ _ _ _ (by show w.heap.size ≠ S; omega)).trans h1, gbelow h2 ((Below.refl _ _).setCell (p := ⟨S, i, none⟩) (by show w.heap.size ≤ S; omega) _), h3.set (by omega), by simpa using h4, h5⟩
theorem QI.push {R : Nat} {w : World} {n : Nat} {wq w8 : World} {o : Obj} {row : Option Nat} (h : QI R w n wq) (hg : (wq.alloc o).grownBy w8 row) (hr : ∀ k, row = some k → w.heap.size + 1 ≤ k) : QI R w n w8 := by
  obtain ⟨h1, h2, h3, h4, h5⟩ := h.below (bel1 wq o)
  exact ⟨(hg.block _ (by omega) (fun e => by have := hr _ e.symm; omega)).trans h1, gbelow h2 ((Below.refl _ _).grown hg (by omega) (fun k hk => by have := hr k hk; omega)), h3.grown hg (fun g e => by have := hr g e; omega), Nat.le_trans h4 hg.size, h5⟩
/-- What a draw of a space, that may be none, leaves. -/
def SomePost (R n : Nat) (w : World) (e : Ending) (w' : World) : Prop :=
  ∃ (m : Int) (v : Value) (zs : List Int), e = .returned (.agg #[.int .i64 m, v]) ∧ Owns w' w.heap.size v zs ∧ (zs.length ≤ 65 ∧ m ≤ 5) ∧ w.grownBy w' (some R) ∧ RD w' R n
theorem QI.some {R : Nat} {w : World} {m : Int} {n k : Nat} {v : Value} {zs : List Int} {wq : World} (h : QI R w n wq) (ho : Owns wq (w.heap.size + 1) v zs) (hl : zs.length ≤ 65 ∧ m ≤ 5) (hk : n ≤ k) (x y : Value) :
    SomePost R k w (.returned (.agg #[.int .i64 m, v])) ((wq.setCell ⟨w.heap.size, 0, none⟩ x).setCell ⟨w.heap.size, 1, none⟩ y) := by
  obtain ⟨_, h2, h3, _, h5⟩ := h
  exact ⟨m, v, zs, rfl, (ho.set2 (by omega) _ _).le (by omega), hl, gbelow (gbelow h2 ((Below.refl _ _).setCell (p := ⟨w.heap.size, 0, none⟩) (Nat.le_refl _) _)) ((Below.refl _ _).setCell (p := ⟨w.heap.size, 1, none⟩) (Nat.le_refl _) _), ((h3.set h5).set h5).more hk⟩
theorem Owns.set1 {w : World} {base S i : Nat} {v u : Value} {zs : List Int} (h : Owns w base v zs) (hne : ∀ k, v.ownBlock = some k → k < S) : Owns (w.setCell ⟨S, i, none⟩ u) base v zs :=
  own_kept h (gset w S i u) fun k e e' => by cases e; have := hne _ e'; omega
theorem Owns.empty (w : World) {base : Nat} (hb : base ≤ w.heap.size) : Owns (w.alloc (.cells #[] 3)) base (.slice (some ⟨w.heap.size, 0, none⟩) 0 0) [] :=
  ⟨rfl, .inr ⟨w.heap.size, 0, #[], rfl, hb, heap_alloc_new w _, Nat.le_refl _, by unfold maxLen; omega, rfl, rfl⟩⟩

set_option maxHeartbeats 4000000 in
set_option maxRecDepth 100000 in
theorem someSpace_any (R n : Nat) (w : World) (hr : RD w R n) (hn : n < 1073730000) :
    Calls Try.prog 23 #[.pointer (some ⟨R, 0, none⟩)] w (SomePost R (n + 44) w) := by
  obtain ⟨i0, hi0, hz0, hz1, hz2⟩ := info_parts info_int
  have h0 := QI.new hr
  have hRw : R < w.heap.size := h0.2.2.2.2
  have HQ0 := hide h0
  clear h0 hr
  go_enter Try.func23, Try.ntmps23
  go_wp2_with fail
  refine (goodSpace_any R n _ HQ0.out.2.2.1 (by omega)).mono ?_
  rintro e w2 ⟨m, v, zs, rfl, hown, hl, g, rd⟩
  have h2 := HQ0.out.pick g rd
  simp only [World.size_alloc] at hown
  have hw2 : w.heap.size + 1 ≤ w2.heap.size := h2.2.2.2.1
  obtain ⟨av, cv, rfl, iv, _⟩ := hown.form
  have hne := hide (own_lt hown)
  have hb3 := bel1 w2 (.cells #[.int .i64 m, .slice av zs.length cv] 25)
  have hs3 := heap_alloc_new w2 (.cells #[.int .i64 m, .slice av zs.length cv] 25)
  have h3 := h2.below hb3
  have ho3 := hown.below hb3
  clear hb3 iv hown h2 g rd
  go_wp2_with fail
  refine (pick_any R (n + 41) _ _ h3.2.2.1 (by omega) ⟨by omega, by omega⟩).mono ?_
  rintro e w4 ⟨r, rfl, hr0, hrl, _, g, rd4⟩
  have h4 := h3.pick g rd4
  have ho4 := ho3.other g (fun k e => by cases e; omega)
  have hs4 := (g.block w2.heap.size (by simp) (by simp; omega)).trans hs3
  obtain ⟨S, hS⟩ : ∃ S, S = w2.heap.size := ⟨_, rfl⟩
  rw [← hS] at hs4 hw2 hne ⊢
  clear g rd4 hrl h3 ho3 hs3 hS
  have hS4 : S < w4.heap.size := lt_of_block hs4
  by_cases e0 : (r == 0) = true
  · have hl3 := lit3 w4 0 5 (-1)
    have hb5 := bel1 w4 (.cells #[.int .i64 0, .int .i64 5, .int .i64 (-1)] 3)
    have h5 := h4.below hb5
    have ho5 := ho4.below hb5
    have hs5 := (hb5.block S hS4).trans hs4
    clear h4 ho4 hs4 hb5
    go_wp2_with fail
    have ho := one_any R (n + 42) 3 _ _ _ h5.2.2.1 (by omega) hl3 (by simp) (by simp) (fun b o s e => by cases e; omega)
    refine ho.mono ?_
    rintro e w6 ⟨x, hx, rfl, g, rd6⟩
    have hx5 : x ≤ 5 := by
      simp only [List.mem_cons, List.not_mem_nil, or_false] at hx
      omega
    clear hx
    have h6 := h5.pick g rd6
    have ho6 := ho5.other g (fun k e => by cases e; omega)
    have hs6 := (g.block S (by simp; omega) (by simp; omega)).trans hs5
    have q0 := unfrozen_of_block hs6 0
    have p0 := cell_of_block hs6 0
    have p1 := cell_of_block hs6 1
    have h7 := h6.set (S := S) (i := 0) (u := .int .i64 x) (by omega)
    have f0 := unfrozen_of_block h7.1 0
    have f1 := unfrozen_of_block h7.1 1
    have r0 := cell_of_block h7.1 0
    have r1 := cell_of_block h7.1 1
    have H7 := hide h7
    have HO := hide (ho6.set1 (S := S) (i := 0) (u := .int .i64 x) hne.out)
    clear ho g rd6 h5 h6 h7 ho5 ho6 hs5 hs6 hl3
    go_wp2_with fail
    refine bodyPost_ret (ret_space rfl _ _ _ _ _ rfl (block_setCell (i := 1) (block_setCell (i := 0) H7.out.1 _) _)) rfl ?_
    exact H7.out.some HO.out (by omega) (by omega) _ _
  · have e0 : (r == 0) = false := by simpa using e0
    by_cases e1 : (r == 1) = true
    · have hb4 := bel1 w4 (.cells #[.int .i64 16, .int .i64 0, .int .i64 (-1)] 3)
      have hb5 : Below w4.heap.size w4 (w4.alloc (.cells #[.int .i64 16, .int .i64 0, .int .i64 (-1)] 3)).drew := bdrew' hb4
      have hl3 : Ints (w4.alloc (.cells #[.int .i64 16, .int .i64 0, .int .i64 (-1)] 3)).drew (some ⟨w4.heap.size, 0, none⟩) [16, 0, -1] := (lit3 w4 16 0 (-1)).below (bdrew' (Below.refl _ _))
      have hd4 : Below w4.heap.size w4 w4.drew := bdrew' (Below.refl _ _)
      have hsd := (hd4.block S hS4).trans hs4
      have d1 := cell_of_block hsd 1
      have h5 := h4.below hb5
      have ho5 := ho4.below hb5
      have hs5 := (hb5.block S hS4).trans hs4
      have d2 := cell_of_block hs5 1
      have H5 := hide h5
      have HO5 := hide ho5
      have HS5 := hide hs5
      have HL3 := hide hl3
      have hS5 := lt_of_block hs5
      clear h4 ho4 hs4 hb4 hb5 hd4 hsd h5 ho5 hs5 hl3
      go_upto_region 6 with fail
      go_region_law (first
        | (go_simp; go_at_call 24; refine (one_any R (n + 42) 3 _ _ _ H5.out.2.2.1 (by omega) HL3.out (by simp) (by simp) (fun b o s e => by cases e; show w4.heap.size ≠ R; omega)).mono ?_; rintro e w6 ⟨y, _, rfl, g, rd6⟩; have h6 := H5.out.pick g rd6; have ho6 := HO5.out.other g (fun k e => by cases e; omega); have hs6 := (g.block S hS5 (by simp; omega)).trans HS5.out; have d6 := cell_of_block hs6 1; have d7 : ∀ o : Obj, (w6.alloc o).cell? ⟨S, 1, none⟩ = some (.slice av zs.length cv) := fun o => cell_of_block (((bel1 w6 o).block S (lt_of_block hs6)).trans hs6) 1; have hw6 : w.heap.size + 1 ≤ w6.heap.size := h6.2.2.2.1; go_wp2_with fail)
        | (refine step_append_lies _ (by rfl) _ _ _ (by rfl) (w.heap.size + 1) 3 i0 (.int .i64 0) 1 8 Try.underlying23 hi0 hz0 hz1 hz2 rfl (by decide) _ _ _ (by rfl) (ho6.alloc _) ⟨w6.heap.size, 0, none⟩ 1 1 [.int .i64 y] (by rfl) (by rfl) (World.news_of_block (cs := #[.int .i64 y]) (t := 3) (fr := (0, 0)) (heap_alloc_new w6 _)) (by simp [Value.oneCell']) (by omega) (by unfold maxLen; omega) (by omega) (by simp; omega) (w6.heap.size + 1) (by simp) ?_; intro gg cc w8 hown8 hgrow hat hltg; have hs8 := (hgrow.block S (by have := lt_of_block hs6; simp; omega) (fun e => by have := hne.out S e.symm; omega)).trans (((bel1 w6 (.cells #[.int .i64 y] 3)).block S (lt_of_block hs6)).trans hs6); have f8 := unfrozen_of_block hs8 1; have g8 := cell_of_block hs8 1; have g9 := cell_of_block hs8 0))
      all_goals
        have hS6 := lt_of_block hs6
        have h8 := (h6.push hgrow (own_ge ho6)).set (S := S) (i := 1) (u := .slice (some ⟨gg, 0, none⟩) (zs.length + 1) cc) (by omega)
        have hs9 := block_setCell (i := 1) hs8 (.slice (some ⟨gg, 0, none⟩) (zs.length + 1) cc)
        have hpush := Owns.push hown8
        obtain ⟨zz, hzz⟩ : ∃ zz : List Int, zz = zs ++ [y] := ⟨_, rfl⟩
        rw [← hzz] at hpush
        have HZ : Hid (zz.length ≤ 65) := by show zz.length ≤ 65; rw [hzz, List.length_append]; simp; omega
        have f0 := unfrozen_of_block h8.1 0
        have f1 := unfrozen_of_block h8.1 1
        have r0 := cell_of_block h8.1 0
        have r1 := cell_of_block h8.1 1
        have H8 := hide h8
        have HO := hide (own_kept hpush (gset _ S 1 (.slice (some ⟨gg, 0, none⟩) (zs.length + 1) cc)) (fun k e e' => by
          have e1 : S = k := by simpa using e
          have e2 : gg = k := by simpa [Value.ownBlock] using e'
          rcases hat with h | h
          · have := hne.out _ h
            omega
          · omega))
        clear hown8 hgrow hpush h8 h6 ho6 hs8 hs9 hzz
        go_wp2_with fail
        refine bodyPost_ret (ret_space rfl _ _ _ _ _ rfl (block_setCell (i := 1) (block_setCell (i := 0) H8.out.1 _) _)) rfl ?_
        exact H8.out.some HO.out ⟨HZ.out, by omega⟩ (by omega) _ _
    · have e1 : (r == 1) = false := by simpa using e1
      by_cases e2 : (r == 2) = true
      · have hb5 := bel1 w4 (.cells #[] 3)
        have h5 := h4.below hb5
        have ho5 := Owns.empty w4 (base := w.heap.size + 1) (by omega)
        have hs5 := (hb5.block S hS4).trans hs4
        have q0 := unfrozen_of_block hs5 1
        have p0 := cell_of_block hs5 0
        have p1 := cell_of_block hs5 1
        have h6 := h4.set (S := S) (i := 1) (u := .slice (some ⟨w4.heap.size, 0, none⟩) 0 0) (by omega)
        have hb6 := bel1 (w4.setCell ⟨S, 1, none⟩ (.slice (some ⟨w4.heap.size, 0, none⟩) 0 0)) (.cells #[] 3)
        have h7 := h6.below hb6
        have hs7 := (hb6.block S (by simpa using hS4)).trans (block_setCell (i := 1) hs4 (.slice (some ⟨w4.heap.size, 0, none⟩) 0 0))
        have ho7 : Owns ((w4.setCell ⟨S, 1, none⟩ (.slice (some ⟨w4.heap.size, 0, none⟩) 0 0)).alloc (.cells #[] 3)) (w.heap.size + 1) (.slice (some ⟨w4.heap.size, 0, none⟩) 0 0) [] := by
          have h := Owns.empty (w4.setCell ⟨S, 1, none⟩ (.slice (some ⟨w4.heap.size, 0, none⟩) 0 0)) (base := w.heap.size + 1) (by simp; omega)
          simpa using h
        have c0 := cell_of_block hs7 0
        have c1 := cell_of_block hs7 1
        have f0 := unfrozen_of_block h7.1 0
        have f1 := unfrozen_of_block h7.1 1
        have r0 := cell_of_block h7.1 0
        have r1 := cell_of_block h7.1 1
        have H7 := hide h7
        have HO := hide ho7
        clear h4 ho4 hs4 hb5 h5 ho5 hs5 h6 h7 hb6 hs7 ho7
        go_wp2_with fail
        refine bodyPost_ret (ret_space rfl _ _ _ _ _ rfl (block_setCell (i := 1) (block_setCell (i := 0) H7.out.1 _) _)) rfl ?_
        exact H7.out.some (zs := []) HO.out ⟨by simp, by omega⟩ (by omega) _ _
      · have e2 : (r == 2) = false := by simpa using e2
        have c0 := cell_of_block hs4 0
        have c1 := cell_of_block hs4 1
        have f0 := unfrozen_of_block h4.1 0
        have f1 := unfrozen_of_block h4.1 1
        have r0 := cell_of_block h4.1 0
        have r1 := cell_of_block h4.1 1
        have H4 := hide h4
        have HO := hide ho4
        clear h4 ho4 hs4
        go_wp2_with fail
        refine bodyPost_ret (ret_space rfl _ _ _ _ _ rfl (block_setCell (i := 1) (block_setCell (i := 0) H4.out.1 _) _)) rfl ?_
        exact H4.out.some HO.out (by omega) (by omega) _ _
end Go.Proofs.Ytbmodiobgkmngaa

/- DrawC: The draws of a space alone. -/
namespace Go.Proofs.Ytbmodiobgkmngaa
open Go.RowKit Go.Joins

/-- an answer's cells and the reader behind it -/
def EC (R : Nat) (w : World) (n : Nat) (wq : World) : Prop :=
  wq.heap[w.heap.size]? = some (.cells #[.int .i64 0, .slice none 0 0] 25 (0, 0)) ∧ Below w.heap.size w wq ∧ RD wq R n ∧ w.heap.size < R
theorem EC.pick {R n k : Nat} {w wq w' : World} (h : EC R w n wq) (hg : wq.grownBy w' (some R)) (hr : RD w' R k) : EC R w k w' := by
  obtain ⟨h1, h2, _, h4⟩ := h
  exact ⟨(hg.block _ (lt_of_block h1) (by simp; omega)).trans h1, bgrown h2 hg h2.size (fun k hk => by cases hk; omega), hr, h4⟩
/-- What a draw of a space alone leaves. -/
def DrawCPost (w : World) (e : Ending) (w' : World) : Prop :=
  ∃ (m : Int) (a : Option Addr) (zs : List Int) (cap : Nat), e = .returned (.agg #[.int .i64 m, .slice a zs.length cap]) ∧ Ints w' a zs ∧ zs.length ≤ 65 ∧ zs.length ≤ cap ∧ Below w.heap.size w w'
theorem cc_done {w wq : World} {m : Int} {a : Option Addr} {cap base : Nat} {zs : List Int} (ho : Owns wq base (.slice a zs.length cap) zs) (hb : w.heap.size < base) (hl : zs.length ≤ 65) (B : Below w.heap.size w wq) (x y : Value) :
    DrawCPost w (.returned (.agg #[.int .i64 m, .slice a zs.length cap])) ((wq.setCell ⟨w.heap.size, 0, none⟩ x).setCell ⟨w.heap.size, 1, none⟩ y) :=
  ⟨m, a, zs, cap, rfl, (ho.set2 (by omega) _ _).ints, hl, ho.cap, (B.setCell (p := ⟨w.heap.size, 0, none⟩) (Nat.le_refl _) _).setCell (p := ⟨w.heap.size, 1, none⟩) (Nat.le_refl _) _⟩






end Go.Proofs.Ytbmodiobgkmngaa

/- DrawSf: The draw of SafeRules: a space and a number of voters. -/
namespace Go.Proofs.Ytbmodiobgkmngaa
open Go.RowKit Go.Joins

theorem lit6s (w : World) (a b c d e f : Int) : Ints (w.alloc (.cells #[.int .i64 a, .int .i64 b, .int .i64 c, .int .i64 d, .int .i64 e, .int .i64 f] 3)) (some ⟨w.heap.size, 0, none⟩) [a, b, c, d, e, f] := fun _ =>
  ⟨w.heap.size, 0, rfl, by simp, fun k hk => by
    match k, hk with
    | 0, _ => simp [go_sem]
    | 1, _ => simp [go_sem]
    | 2, _ => simp [go_sem]
    | 3, _ => simp [go_sem]
    | 4, _ => simp [go_sem]
    | 5, _ => simp [go_sem]⟩
theorem EC.below {R n : Nat} {w wq w' : World} (h : EC R w n wq) (hb : Below wq.heap.size wq w') : EC R w n w' := by
  obtain ⟨h1, h2, h3, h4⟩ := h
  exact ⟨(hb.block _ (lt_of_block h1)).trans h1, bnext h2 hb, h3.below hb, h4⟩
/-- What a draw of a space and a number leaves. -/
def DrawSfPost (w : World) (e : Ending) (w' : World) : Prop :=
  ∃ (m : Int) (a : Option Addr) (zs : List Int) (cap : Nat) (x : Int), e = .returned (.tuple #[.agg #[.int .i64 m, .slice a zs.length cap], .int .i64 x]) ∧ Ints w' a zs ∧ zs.length ≤ 65 ∧ zs.length ≤ cap ∧ Below w.heap.size w w'
set_option maxHeartbeats 4000000 in
set_option maxRecDepth 100000 in
theorem drawSafeRules_any (a : Option Addr) (cap : Nat) (zs : List Nat) (w : World) (hi : Byts w a zs) (hl : zs.length ≤ 1048576) (hc : zs.length ≤ cap) :
    Calls Try.prog 5 #[.slice a zs.length cap] w (DrawSfPost w) := by
  have h0 := heap_alloc_new w (.cells #[.int .i64 0, .slice none 0 0] 25)
  have b0 := bel1 w (.cells #[.int .i64 0, .slice none 0 0] 25)
  have hi1 := hi.below b0
  have H0 := hide h0
  have HB0 := hide b0
  clear hi h0 b0
  go_enter Try.func5, Try.ntmps5
  go_wp2_with fail
  refine (newReader_any _ _ _ _ hi1 hl hc).mono ?_
  rintro e w1 ⟨R, rfl, hR, rd, B⟩
  have E1 : Hid (EC R w 0 w1) := ⟨(B.block w.heap.size (by simp)).trans H0.out, bnext HB0.out B, rd, Nat.lt_of_succ_le (by simpa using hR)⟩
  clear hR B rd hi1 H0 HB0
  have r2 := E1.out.2.2.1
  have hRw := hide (r2.lt)
  go_wp2_with fail
  refine (someSpace_any R 0 _ r2 (by omega)).mono ?_
  rintro e w3 ⟨m, v, ss, rfl, own, hsl, g, rd⟩
  obtain ⟨av, cv, rfl, _, _⟩ := own.form
  have E3 := hide (E1.out.pick g rd)
  have hw2 := hide (lt_of_block E1.out.1)
  have B4 := bel1 w3 (.cells #[.int .i64 2, .int .i64 2, .int .i64 1, .int .i64 2, .int .i64 0, .int .i64 3] 3)
  have E4 := hide (E3.out.below B4)
  have l6 := hide (lit6s w3 2 2 1 2 0 3)
  have O4 := hide (own.below B4)
  have hR3 := hide (rd.lt)
  clear g rd r2 E1 B4 own
  go_wp2_with fail
  refine (one_any R _ 6 _ _ _ E4.out.2.2.1 (by omega) l6.out (by simp) (by simp) (fun b o s e => by cases e; have := hR3.out; omega)).mono ?_
  rintro e w5 ⟨x, _, rfl, g5, rd5⟩
  have E5 := hide (E4.out.pick g5 rd5)
  have O5 := hide (O4.out.other g5 (fun k e => by cases e; exact hRw.out))
  have f0 := unfrozen_of_block E5.out.1 0
  have f1 := unfrozen_of_block E5.out.1 1
  have r0 := cell_of_block E5.out.1 0
  have r1 := cell_of_block E5.out.1 1
  clear g5 rd5 E4 E3
  go_wp2_with fail
  refine bodyPost_ret (ret_cross rfl _ _ _ _ _ rfl (block_setCell (i := 1) (block_setCell (i := 0) E5.out.1 _) _)) rfl ?_
  exact ⟨m, av, ss, cv, x, rfl, (O5.out.set2 (by have := hw2.out; omega) _ _).ints, hsl.1, O5.out.cap, (E5.out.2.1.setCell (p := ⟨w.heap.size, 0, none⟩) (Nat.le_refl _) _).setCell (p := ⟨w.heap.size, 1, none⟩) (Nat.le_refl _) _⟩
end Go.Proofs.Ytbmodiobgkmngaa
