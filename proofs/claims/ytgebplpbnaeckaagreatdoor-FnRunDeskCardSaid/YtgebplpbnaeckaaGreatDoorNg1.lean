/- Texts of this seat one behind the other: DrawT. Conditions: none. -/
import Derived.Test.YtgebplpbnaeckaaGreatDoorNg0
import Derived.Test.YtgebplpbnaeckaaGreatDoorMg24
import Derived.Deep.RegionHeld3
import Derived.Deep.RegionLawGrows

/- DrawT: The draw of votes in a space. -/
namespace Go.Proofs.YtgebplpbnaeckaaGreatDoor
open Go.RowKit Go.Joins

theorem lit7 (w : World) (a b c d e f g : Int) : Ints (w.alloc (.cells #[.int .i64 a, .int .i64 b, .int .i64 c, .int .i64 d, .int .i64 e, .int .i64 f, .int .i64 g] 3)) (some ⟨w.heap.size, 0, none⟩) [a, b, c, d, e, f, g] := fun _ =>
  ⟨w.heap.size, 0, rfl, by simp, fun k hk => by
    match k, hk with
    | 0, _ => simp [go_sem]
    | 1, _ => simp [go_sem]
    | 2, _ => simp [go_sem]
    | 3, _ => simp [go_sem]
    | 4, _ => simp [go_sem]
    | 5, _ => simp [go_sem]
    | 6, _ => simp [go_sem]⟩
/-- votes under way: the space's box, the list, the reader -/
def VI (R : Nat) (w : World) (n : Nat) (m : Int) (sl : Value) (v : Value) (ls : List Int) (wq : World) : Prop :=
  wq.heap[w.heap.size]? = some (.cells #[.int .i64 m, sl] 37 (0, 0)) ∧ Owns wq (w.heap.size + 1) v ls ∧ w.grownBy wq (some R) ∧ RD wq R n ∧ w.heap.size + 1 ≤ wq.heap.size ∧ R < w.heap.size
theorem VI.rd {R : Nat} {w : World} {m : Int} {n : Nat} {sl v : Value} {ls : List Int} {wq : World} (h : VI R w n m sl v ls wq) : RD wq R n := h.2.2.2.1
theorem VI.new {R : Nat} {w : World} {n : Nat} (m : Int) (sl : Value) (h : RD w R n) :
    VI R w n m sl (.slice (some ⟨w.heap.size + 1, 0, none⟩) 0 0) [] ((w.alloc (.cells #[.int .i64 m, sl] 37)).alloc (.cells #[] 3)) := by
  have h0 := heap_alloc_new w (.cells #[.int .i64 m, sl] 37)
  have he := Owns.empty (w.alloc (.cells #[.int .i64 m, sl] 37)) (base := w.heap.size + 1) (by simp)
  simp only [World.size_alloc] at he
  exact ⟨((bel1 _ _).block w.heap.size (by simp)).trans h0, he, gbelow (grefl0 w R) (bel2 w _ _), h.below (bel2 w _ _), by simp, h.lt⟩
theorem VI.below {R : Nat} {w : World} {m : Int} {n : Nat} {sl v : Value} {ls : List Int} {wq w' : World} (h : VI R w n m sl v ls wq) (hb : Below wq.heap.size wq w') : VI R w n m sl v ls w' := by
  obtain ⟨h1, h2, h3, h4, h5, h6⟩ := h
  exact ⟨(hb.block _ (by omega)).trans h1, h2.below hb, gbelow h3 (hb.mono (by omega)), h4.below hb, Nat.le_trans h5 hb.size, h6⟩
theorem VI.drew {R : Nat} {w : World} {m : Int} {n : Nat} {sl v : Value} {ls : List Int} {wq : World} (h : VI R w n m sl v ls wq) : VI R w n m sl v ls wq.drew := h.below (bdrew' (Below.refl _ _))
theorem VI.pick {R : Nat} {w : World} {m : Int} {n k : Nat} {sl v : Value} {ls : List Int} {wq w' : World} (h : VI R w n m sl v ls wq) (hg : wq.grownBy w' (some R)) (hr : RD w' R k) : VI R w k m sl v ls w' := by
  obtain ⟨h1, h2, h3, _, h5, h6⟩ := h
  exact ⟨(hg.block _ (by omega) (by simp; omega)).trans h1, h2.other hg (fun g e => by cases e; omega), gpick h3 hg, hr, Nat.le_trans h5 hg.size, h6⟩
theorem VI.more {R : Nat} {w : World} {m : Int} {n k : Nat} {sl v : Value} {ls : List Int} {wq : World} (h : VI R w n m sl v ls wq) (hk : n ≤ k) : VI R w k m sl v ls wq :=
  ⟨h.1, h.2.1, h.2.2.1, h.2.2.2.1.more hk, h.2.2.2.2⟩
theorem VI.push {R : Nat} {w : World} {m z : Int} {n : Nat} {sl v v' : Value} {ls : List Int} {wq w5 : World} {o : Obj} (h : VI R w n m sl v ls wq) (hg : (wq.alloc o).grownBy w5 v.ownBlock)
    (ho : w5.ownsRow (w.heap.size + 1) 3 1 v' (ls.length + 1) (ls.map (Value.int .i64) ++ [.int .i64 z])) : VI R w n m sl v' (ls ++ [z]) w5 := by
  obtain ⟨h1, h2, h3, h4, h5, h6⟩ := h.below (bel1 wq o)
  have hne : ∀ k, k < w.heap.size + 1 → some k ≠ v.ownBlock := fun k hk e => by
    have := own_ge h2 k e.symm
    omega
  exact ⟨(hg.block _ (by omega) (hne _ (by omega))).trans h1, Owns.push ho, gbelow h3 ((Below.refl _ _).grown hg (by omega) (fun k hk => by have := own_ge h2 k hk; omega)), h4.grown hg (fun g e => by have := own_ge h2 g e; omega), Nat.le_trans h5 hg.size, h6⟩
/-- a write into the list -/
theorem VI.row {R : Nat} {w : World} {m : Int} {n : Nat} {sl v v' : Value} {ls ls' : List Int} {wq w5 : World} {k : Nat} (h : VI R w n m sl v ls wq) (hk : v.ownBlock = some k) (hg : wq.grownBy w5 (some k)) (ho : Owns w5 (w.heap.size + 1) v' ls') : VI R w n m sl v' ls' w5 := by
  obtain ⟨h1, h2, h3, h4, h5, h6⟩ := h
  have hge := own_ge h2 k hk
  exact ⟨(hg.block _ (by omega) (by simp; omega)).trans h1, ho, gbelow h3 ((Below.refl _ _).grown hg (by omega) (fun j hj => by cases hj; omega)), h4.grown hg (fun g e => by cases e; omega), Nat.le_trans h5 hg.size, h6⟩

/-- a new list instead -/
theorem VI.fresh {R : Nat} {w : World} {m : Int} {n : Nat} {sl v v' : Value} {ls ls' : List Int} {wq w5 : World} (h : VI R w n m sl v ls wq) (hg : wq.grownBy w5 none) (ho : Owns w5 (w.heap.size + 1) v' ls') : VI R w n m sl v' ls' w5 := by
  obtain ⟨h1, h2, h3, h4, h5, h6⟩ := h
  exact ⟨(hg.block _ (by omega) (by simp)).trans h1, ho, gbelow h3 ((Below.refl _ _).grown hg (by omega) (fun j hj => by cases hj)), h4.grown hg (fun g e => by cases e), Nat.le_trans h5 hg.size, h6⟩

/-- What a draw of votes leaves. -/
def VotesPost (R n : Nat) (w : World) (e : Ending) (w' : World) : Prop :=
  ∃ (v : Value) (ls : List Int), e = .returned v ∧ Owns w' w.heap.size v ls ∧ ls.length ≤ 10 ∧ w.grownBy w' (some R) ∧ RD w' R n
theorem VI.done {R : Nat} {w : World} {m : Int} {n k : Nat} {sl v : Value} {ls : List Int} {wq : World} (h : VI R w n m sl v ls wq) (hl : ls.length ≤ 10) (hk : n ≤ k) : VotesPost R k w (.returned v) wq :=
  ⟨v, ls, rfl, h.2.1.le (by omega), hl, h.2.2.1, h.2.2.2.1.more hk⟩

set_option maxHeartbeats 8000000 in
set_option maxRecDepth 100000 in
theorem votesOf_any (R n : Nat) (m : Int) (a : Option Addr) (cap : Nat) (zs : List Int) (w : World) (hr : RD w R n) (hn : n < 1073730000) (hi : Ints w a zs) (hl : zs.length ≤ 65) (hne : ∀ b o s, a = some ⟨b, o, s⟩ → b ≠ R) :
    Calls Tryz.prog 18 #[.pointer (some ⟨R, 0, none⟩), .agg #[.int .i64 m, .slice a zs.length cap]] w (VotesPost R (n + 8) w) := by
  obtain ⟨i0, hi0, hz0, hz1, hz2⟩ := info_parts info_int
  have V0 := VI.new m (.slice a zs.length cap) hr
  have HI := hide hi
  have HN := hide hne
  have hRw := hr.lt
  clear hi hne hr
  have hl7 := lit7 ((w.alloc (.cells #[.int .i64 m, .slice a zs.length cap] 37)).alloc (.cells #[] 3)) 3 5 2 4 1 3 3
  have V1 := V0.below (bel1 _ (.cells #[.int .i64 3, .int .i64 5, .int .i64 2, .int .i64 4, .int .i64 1, .int .i64 3, .int .i64 3] 3))
  simp only [World.size_alloc] at hl7
  have HV := hide V1
  clear V0 V1
  go_enter Tryz.func18, Tryz.ntmps18
  go_wp2_with fail
  have ho := one_any R n 7 _ _ _ HV.out.rd (by omega) hl7 (by simp) (by simp) (fun b o s e => by cases e; omega)
  refine ho.mono ?_
  rintro e w1 ⟨q, hq, rfl, g, rd⟩
  have V2 := HV.out.pick g rd
  have hq' : 1 ≤ q ∧ q ≤ 5 := by
    simp only [List.mem_cons, List.not_mem_nil, or_false] at hq
    omega
  clear ho hq g rd hl7 HV
  go_wp2_with fail
  go_loopw [5] (fun v wq => ∃ ls : List Int, (ls.length : Int) ≤ q ∧ VI R w (n + 1 + ls.length) m (.slice a zs.length cap) v ls wq) (fun v _ => lackOf 5 v)
  case atStart => exact ⟨[], by simp; omega, V2⟩
  case round =>
    clear V2
    obtain ⟨ls, hls, hs⟩ := hrel
    have hl5 : ls.length ≤ 5 := by omega
    obtain ⟨va, vc, rfl, _, _⟩ := hs.2.1.form
    by_cases hlt : (ls.length : Int) < q
    · by_cases hz : zs.length = 0
      · have hZ : ((zs.length : Int) == 0) = true := by simpa using hz
        have c1 := cell_of_block hs.1 1
        have hown := hs.2.1
        have hws := hs.2.2.2.2.1
        have HS := hide hs
        clear hs hz
        go_wp2_with ((at_builtin; refine wpList_append_own _ rfl _ _ 35 rfl (w.heap.size + 1) 3 i0 (.int .i64 0) 1 8 Tryz.underlying35 hi0 hz0 hz1 hz2 rfl (by decide) _ _ _ rfl (hown.alloc _) ⟨wr.heap.size, 0, none⟩ 1 1 [.int .i64 0] rfl rfl (cell_one_new wr _ _) (by intro u hu; simp at hu; subst hu; rfl) (by unfold maxLen; omega) (by omega) (by first | omega | (simp; omega)) ?_))
        intro v' w5 hown' hgrow _
        have V5 := HS.out.push hgrow hown'
        obtain ⟨zz, hzz⟩ : ∃ zz : List Int, zz = ls ++ [(0 : Int)] := ⟨_, rfl⟩
        rw [← hzz] at V5
        have hzl : zz.length = ls.length + 1 := by rw [hzz, List.length_append]; rfl
        obtain ⟨qa, qc, rfl, _⟩ := V5.2.1.form
        have HZ := hide hzl
        have HQ := hide V5
        clear hown hown' hgrow V5 hzz hzl c1 hws
        go_wp2
        go_roundw
        case rel => exact ⟨zz, by have := HZ.out; omega, HQ.out.more (by have := HZ.out; omega)⟩
        case measure => simp only [lackOf]; have := HZ.out; omega
      · have hZ : ((zs.length : Int) == 0) = false := by simpa using hz
        have hpos : 0 < zs.length := by omega
        obtain ⟨b, off, e0, hb, hc⟩ := HI.out hpos
        have hbR := HN.out b off none e0
        subst e0
        have c1 := cell_of_block hs.1 1
        have HS := hide hs
        clear hs hz
        go_upto_region 6 with fail
        have hs := HS.out
        have hsd := hs.drew
        have d1 := cell_of_block hsd.1 1
        have hws := hs.2.2.2.2.1
        have HC := hide hc
        clear hs c1 hc
        go_region_law (first
          | (go_simp; go_at_call 17; refine (pick_any R _ _ _ hsd.rd (by omega) ⟨by omega, by omega⟩).mono ?_; rintro e w3 ⟨y, rfl, hy0, hyl, _, g3, rd3⟩; obtain ⟨i, rfl⟩ := Int.eq_ofNat_of_zero_le hy0; have hil : i < zs.length := (by (have := hyl (by omega); omega)); have hs3 := hsd.pick g3 rd3; have k3 := cell_of_block hs3.1 1; have hown3 := hs3.2.1; have hw3 : w.heap.size + 1 ≤ w3.heap.size := hs3.2.2.2.2.1; have hck := hs3.2.2.1.cell (HC.out i hil) (by first | (simp; done) | (simp; omega)); rw [getD_lt hil] at hck; clear hyl g3 rd3; go_wp2_with fail)
          | (refine step_append_lies _ (by rfl) _ _ _ (by rfl) (w.heap.size + 1) 3 i0 (.int .i64 0) 1 8 Tryz.underlying35 hi0 hz0 hz1 hz2 rfl (by decide) _ _ _ (by rfl) (hown3.alloc _) ⟨w3.heap.size, 0, none⟩ 1 1 [.int .i64 zs[i]] (by rfl) (by rfl) (World.news_of_block (cs := #[.int .i64 zs[i]]) (t := 3) (fr := (0, 0)) (heap_alloc_new w3 _)) (by simp [Value.oneCell']) (by omega) (by unfold maxLen; omega) (by omega) (by simp; omega) (w3.heap.size + 1) (by simp) ?_; intro gg cc w5 hown5 hgrow hat hltg; have V5 := hs3.push hgrow hown5))
        all_goals
          obtain ⟨zz, hzz⟩ : ∃ zz : List Int, zz = ls ++ [(zs[i] : Int)] := ⟨_, rfl⟩
          rw [← hzz] at V5
          have hzl : zz.length = ls.length + 1 := by rw [hzz, List.length_append]; rfl
          have HZ := hide hzl
          have HQ := hide V5
          clear hown3 hown5 hgrow V5 hzz hzl k3 d1 hws hsd hs3 hat
          go_simp
          go_wp2_with fail
          go_roundw
          case rel => exact ⟨zz, by have := HZ.out; omega, by have := HQ.out.more (k := n + 1 + zz.length) (by have := HZ.out; omega); exact this⟩
          case measure => simp only [lackOf]; have := HZ.out; omega
    · have hq5 : (ls.length : Int) = q := by omega
      have hpos : 0 < ls.length := by omega
      have HV := hide hs
      have hown := hs.2.1
      clear hs hq5
      go_wp2_with fail
      refine (pick_any R (n + 1 + ls.length) _ _ HV.out.rd (by omega) ⟨by omega, by omega⟩).mono ?_
      rintro e w3 ⟨r, rfl, _, _, _, g, rd⟩
      have V3 := HV.out.pick g rd
      have hown3 := V3.2.1
      clear g rd hown HV
      by_cases e0 : (r == 0) = true
      · have V4 := hide (V3.below (bel1 w3 (.cells #[] 3)))
        have hE := hide (Owns.empty w3 (base := w.heap.size + 1) V3.2.2.2.2.1)
        clear V3 hown3
        go_wp2
        go_ret
        exact ⟨_, [], rfl, hE.out.le (by omega), by simp, V4.out.2.2.1, V4.out.2.2.2.1.more (by omega)⟩
      · have e0 : (r == 0) = false := by simpa using e0
        by_cases e1 : (r == 1) = true
        · have hl3 := lit3 w3 (-1) 16 7
          have V4 := hide (V3.below (bel1 w3 (.cells #[.int .i64 (-1), .int .i64 16, .int .i64 7] 3)))
          have hw3 := V3.2.2.2.2.1
          clear V3 hown3
          go_wp2_with fail
          have ho := one_any R (n + 1 + ls.length + 1) 3 _ _ _ V4.out.rd (by omega) hl3 (by simp) (by simp) (fun b o s e => by cases e; omega)
          refine ho.mono ?_
          rintro e w5 ⟨x, _, rfl, g, rd⟩
          have V5 := hide (V4.out.pick g rd)
          have h5 := V5.out.2.1
          have h5' : w5.ownsRow (w.heap.size + 1) 3 1 (.slice va ls.length vc) ls.length (ls.map (Value.int .i64)) := h5
          rcases ownsRow_forms h5' with ⟨_, h0⟩ | ⟨gb, cap', hv⟩
          · omega
          · simp only [Value.slice.injEq] at hv
            obtain ⟨rfl, hv2, hv3⟩ := hv
            clear hv2 hv3
            have hst := h5'.cellAt 0 (by omega)
            rw [List.getElem?_map, List.getElem?_eq_getElem hpos] at hst
            have hfz := h5'.frozenAt 0
            have HST := hide (h5'.stored 0 (.int .i64 x))
            clear ho g rd h5 h5' hl3
            go_wp2
            go_ret
            have H1 := HST.out.1
            rw [show (ls.map (Value.int .i64)).set 0 (.int .i64 x) = (ls.set 0 x).map (Value.int .i64) from by rw [List.map_set]] at H1
            have ho' : Owns (w5.setCell ⟨gb, 0, none⟩ (.int .i64 x)) (w.heap.size + 1) (.slice (some ⟨gb, 0, none⟩) ls.length vc) (ls.set 0 x) := by
              unfold Owns
              rw [List.length_set]
              exact H1
            have V6 := V5.out.row (k := gb) rfl (gset _ gb 0 _) ho'
            refine VI.done (n := n + 1 + ls.length + 1 + 1) (k := n + 8) V6 ?_ ?_
            · rw [List.length_set]; omega
            · omega
        · have e1 : (r == 1) = false := by simpa using e1
          by_cases e2 : (r == 2) = true
          · have h5' : w3.ownsRow (w.heap.size + 1) 3 1 (.slice va ls.length vc) ls.length (ls.map (Value.int .i64)) := hown3
            rcases ownsRow_forms h5' with ⟨_, h0⟩ | ⟨gb, cap', hv⟩
            · omega
            · simp only [Value.slice.injEq] at hv
              obtain ⟨rfl, hv2, hv3⟩ := hv
              clear hv2 hv3
              have hst := h5'.cellAt 0 (by omega)
              rw [List.getElem?_map, List.getElem?_eq_getElem hpos] at hst
              obtain ⟨z, hz⟩ : ∃ z, z = ls[0] := ⟨_, rfl⟩
              rw [← hz] at hst
              have hst2 : w3.cell? ⟨gb, 0, none⟩ = some (.int .i64 z) := hst
              have hw3 := V3.2.2.2.2.1
              have hpos' := hpos
              have HV4 := hide ((V3.below (bel1 w3 (.cells #[.int .i64 z, .int .i64 z, .int .i64 z, .int .i64 z, .int .i64 z] 3))).drew)
              have hw3 := V3.2.2.2.2.1
              have hst2 : w3.cell? ⟨gb, 0, none⟩ = some (.int .i64 z) := hst
              have hmz : (ls.map (Value.int .i64))[0]? = some (.int .i64 z) := by rw [List.getElem?_map, List.getElem?_eq_getElem hpos, ← hz]; rfl
              have HMZ := hide hmz
              clear h5' hst V3 hmz hz
              go_upto_region 13 with fail
              by_cases hroom : ls.length + 5 ≤ vc
              · have hmz := HMZ.out
                go_region_held3 (fun w' => w'.cell? ⟨gb, 0, none⟩ = some (.int .i64 z))
                  (first | go_keep | exact HS5.out)
                  ((refine step_append_spare (by rfl) _ _ 35 (by rfl) (w.heap.size + 1) 3 i0 1 Tryz.underlying35 hi0 hz1 gb ls.length vc (ls.map (Value.int .i64)) (by rfl) ((hown3.alloc _).drew) ⟨w3.heap.size, 0, none⟩ 5 5 [.int .i64 z, .int .i64 z, .int .i64 z, .int .i64 z, .int .i64 z] (by rfl) (by rfl) (World.news_of_block (cs := #[.int .i64 z, .int .i64 z, .int .i64 z, .int .i64 z, .int .i64 z]) (t := 3) (fr := (0, 0)) (heap_alloc_new w3 _)) (by intro u hu; simp at hu; subst hu; rfl) hroom ?_; intro w5 hown5 hgrow; have HS5 := hide (own_first hown5 hmz)))
                have ho5 : Owns w5 (w.heap.size + 1) (.slice (some ⟨gb, 0, none⟩) (ls.length + 5) vc) (ls ++ [z, z, z, z, z]) := by
                  unfold Owns
                  simpa using hown5
                have V6 := hide (HV4.out.row (k := gb) rfl hgrow ho5)
                clear hown3 hown5 hgrow ho5 hmz HS5
                go_wp2
                go_ret
                exact V6.out.done (by rw [List.length_append]; simp; omega) (by omega)
              · have hmz := HMZ.out
                have hro : (w3.alloc (.cells #[.int .i64 z, .int .i64 z, .int .i64 z, .int .i64 z, .int .i64 z] 3)).drew.ownsRow (w.heap.size + 1) 3 1 (.slice (some ⟨gb, 0, none⟩) ls.length vc) ls.length (ls.map (Value.int .i64)) := (hown3.alloc _).drew
                have hoc := own_cells hro
                have hst5 : (w3.alloc (.cells #[.int .i64 z, .int .i64 z, .int .i64 z, .int .i64 z, .int .i64 z] 3)).drew.cell? ⟨gb, 0, none⟩ = some (.int .i64 z) := by
                  rw [hro.cellAt 0 (by omega)]
                  exact hmz
                have HOC := hide hoc
                have HST5 := hide hst5
                clear hoc hst5 hro
                go_region_held3 (fun w' => w'.cell? ⟨gb, 0, none⟩ = some (.int .i64 z))
                  (first | go_keep | exact HS5.out)
                  ((refine step_append_grows (by rfl) _ _ 35 (by rfl) 3 i0 (.int .i64 0) 1 8 Tryz.underlying35 hi0 hz0 hz1 hz2 rfl (by decide) (some ⟨gb, 0, none⟩) ls.length vc (ls.map (Value.int .i64)) (by rfl) (by intro h; cases h) (by simp) HOC.out ⟨w3.heap.size, 0, none⟩ 5 5 [.int .i64 z, .int .i64 z, .int .i64 z, .int .i64 z, .int .i64 z] (by rfl) (by rfl) (World.news_of_block (cs := #[.int .i64 z, .int .i64 z, .int .i64 z, .int .i64 z, .int .i64 z]) (t := 3) (fr := (0, 0)) (heap_alloc_new w3 _)) (by intro u hu; simp at hu; subst hu; rfl) (by omega) (by unfold maxLen; omega) (by omega) ?_; intro v5 w5 hown5 hgrow; obtain ⟨gg, cc, rfl, hgb, hgl⟩ := World.ownsRow.form hown5 (by omega); have HS5 := hide (hgrow.cell HST5.out (by simp))))
                have ho5 : Owns w5 (w.heap.size + 1) (.slice (some ⟨gg, 0, none⟩) (ls.length + 5) cc) (ls ++ [z, z, z, z, z]) := by
                  unfold Owns
                  have h := ownsRow_le hown5 (base' := w.heap.size + 1) (by simp; omega)
                  simpa using h
                have V6 := hide (HV4.out.fresh hgrow ho5)
                clear hown3 hown5 hgrow ho5 hmz HS5
                go_wp2
                go_ret
                exact V6.out.done (by rw [List.length_append]; simp; omega) (by omega)
          · have e2 : (r == 2) = false := by simpa using e2
            have HV3 := hide V3
            clear V3 hown3
            go_wp2
            go_ret
            exact HV3.out.done (by omega) (by omega)

/-- What a draw of a space and votes leaves. -/
def SVPost (R n : Nat) (w : World) (e : Ending) (w' : World) : Prop :=
  ∃ (m : Int) (v : Value) (zs : List Int) (u : Value) (ls : List Int), e = .returned (.tuple #[.agg #[.int .i64 m, v], u]) ∧ Owns w' w.heap.size v zs ∧ (zs.length ≤ 65 ∧ m ≤ 5) ∧ Owns w' w.heap.size u ls ∧ ls.length ≤ 10 ∧ w.grownBy w' (some R) ∧ RD w' R n
theorem QI.votes {R : Nat} {w : World} {m : Int} {n k : Nat} {v u : Value} {zs ls : List Int} {wq : World} (h : QI R w n wq) (ho : Owns wq (w.heap.size + 1) v zs) (hl : zs.length ≤ 65 ∧ m ≤ 5) (hu : Owns wq (w.heap.size + 1) u ls) (hm : ls.length ≤ 10) (hk : n ≤ k) (x y : Value) :
    SVPost R k w (.returned (.tuple #[.agg #[.int .i64 m, v], u])) ((wq.setCell ⟨w.heap.size, 0, none⟩ x).setCell ⟨w.heap.size, 1, none⟩ y) := by
  obtain ⟨_, h2, h3, _, h5⟩ := h
  exact ⟨m, v, zs, u, ls, rfl, (ho.set2 (by omega) _ _).le (by omega), hl, (hu.set2 (by omega) _ _).le (by omega), hm, gbelow (gbelow h2 ((Below.refl _ _).setCell (p := ⟨w.heap.size, 0, none⟩) (Nat.le_refl _) _)) ((Below.refl _ _).setCell (p := ⟨w.heap.size, 1, none⟩) (Nat.le_refl _) _), ((h3.set h5).set h5).more hk⟩
/-- What a draw of a space and votes out of a code leaves. -/
def DrawSVPost (w : World) (e : Ending) (w' : World) : Prop :=
  ∃ (m : Int) (a : Option Addr) (zs : List Int) (cap : Nat) (l : Option Addr) (ls : List Int) (capl : Nat), e = .returned (.tuple #[.agg #[.int .i64 m, .slice a zs.length cap], .slice l ls.length capl]) ∧ Ints w' a zs ∧ zs.length ≤ 65 ∧ Ints w' l ls ∧ ls.length ≤ 10 ∧ Below w.heap.size w w'
end Go.Proofs.YtgebplpbnaeckaaGreatDoor
