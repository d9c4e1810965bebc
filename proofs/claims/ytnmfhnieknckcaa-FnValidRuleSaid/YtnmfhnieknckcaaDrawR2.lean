/- The draw of rules: ruleOf. -/
import Derived.Test.YtnmfhnieknckcaaDrawR
import Derived.Deep.DeepCutAuto
namespace Go.Proofs.Ytnmfhnieknckcaa
open Go.RowKit Go.Joins

/-- the space's box and the answer's block, ahead of the rule -/
def HI (R : Nat) (w : World) (m : Int) (sv : Value) (n : Nat) (wq : World) : Prop :=
  wq.heap[w.heap.size]? = some (.cells #[.int .i64 m, sv] 25 (0, 0)) ∧ wq.heap[w.heap.size + 1]? = some (.cells #[.int .i64 0, .slice none 0 0] 27 (0, 0)) ∧ w.grownBy wq (some R) ∧ RD wq R n ∧ w.heap.size + 2 ≤ wq.heap.size ∧ R < w.heap.size
theorem HI.new {R n : Nat} {w : World} (m : Int) (sv : Value) (h : RD w R n) : HI R w m sv n ((w.alloc (.cells #[.int .i64 m, sv] 25)).alloc (.cells #[.int .i64 0, .slice none 0 0] 27)) := by
  have h0 := heap_alloc_new w (.cells #[.int .i64 m, sv] 25)
  have h1 := heap_alloc_new (w.alloc (.cells #[.int .i64 m, sv] 25)) (.cells #[.int .i64 0, .slice none 0 0] 27)
  simp only [World.size_alloc] at h1
  have hb := bel2 w (.cells #[.int .i64 m, sv] 25) (.cells #[.int .i64 0, .slice none 0 0] 27)
  exact ⟨((bel1 _ _).block w.heap.size (by simp)).trans h0, h1, gbelow (grefl0 w R) hb, h.below hb, by simp, h.lt⟩
theorem HI.below {R n : Nat} {w wq w' : World} {m : Int} {sv : Value} (h : HI R w m sv n wq) (hb : Below wq.heap.size wq w') : HI R w m sv n w' := by
  obtain ⟨h1, h2, h3, h4, h5, h6⟩ := h
  exact ⟨(hb.block _ (by omega)).trans h1, (hb.block _ (by omega)).trans h2, gbelow h3 (hb.mono (by omega)), h4.below hb, Nat.le_trans h5 hb.size, h6⟩
theorem HI.pick {R n k : Nat} {w wq w' : World} {m : Int} {sv : Value} (h : HI R w m sv n wq) (hg : wq.grownBy w' (some R)) (hr : RD w' R k) : HI R w m sv k w' := by
  obtain ⟨h1, h2, h3, _, h5, h6⟩ := h
  exact ⟨(hg.block _ (by omega) (by simp; omega)).trans h1, (hg.block _ (by omega) (by simp; omega)).trans h2, gpick h3 hg, hr, Nat.le_trans h5 hg.size, h6⟩
theorem HI.rule {R n B K : Nat} {w wq : World} {m v : Int} {sv : Value} {af : Option Addr} {fl : List Int} (h : HI R w m sv n wq) (hB : wq.heap[B]? = some (.cells #[.int .i64 v, .slice none 0 0] 27 (0, 0))) (hi : Ints wq af fl) (h1 : w.heap.size + 1 < B) (h2 : B < K) (h3 : K ≤ wq.heap.size)
    (hs : ∀ b o s, af = some ⟨b, o, s⟩ → B < b ∧ b < K) : RI R w B K m sv v n (.slice none 0 0) [] af fl wq :=
  ⟨h.1, h.2.1, hB, World.ownsRow_nil _ _ _ _, hi, h.2.2.1, h.2.2.2.1, h3, ⟨h.2.2.2.2.2, h1, h2⟩, hs⟩
theorem litG (w : World) (zs : List Int) : Ints (w.alloc (.cells (zs.map (Value.int .i64)).toArray 3)) (some ⟨w.heap.size, 0, none⟩) zs := fun _ =>
  ⟨w.heap.size, 0, rfl, by simp, fun k hk => by
    rw [Nat.zero_add]
    simp [go_sem, hk, List.getD_eq_getElem?_getD]⟩
theorem ret_rule {fn : Func} {p : Tmp} (h : fn.results = #[.cell p 27]) (tmps : Array Value) (w : World) (g : Nat) (x y : Value)
    (hp : tmps.getD p undef = .pointer (some ⟨g, 0, none⟩)) (hb : w.heap[g]? = some (.cells #[x, y] 27 (0, 0))) : (results fn tmps).run Try.prog w = .ok (.agg #[x, y]) w := by
  have c0 := cell_of_block hb 0
  have c1 := cell_of_block hb 1
  have hr : (results fn tmps).run Try.prog w = ((asAddr (tmps.getD p undef)).run Try.prog w).andThen fun a w₁ => (loadVar 27 a).run Try.prog w₁ := by
    simp only [results, h]
    simp [Sem.run_bind, Result.andThen]
  rw [hr, hp]
  simp [go_sem] at c0 c1 ⊢
  simp [c0, c1, go_sem]
theorem RI.famAt {R : Nat} {w : World} {B K : Nat} {m v : Int} {sv vv : Value} {n bf off k : Nat} {ws fl : List Int} {wq : World} (h : RI R w B K m sv v n vv ws (some ⟨bf, off, none⟩) fl wq) (hk : k < fl.length) : wq.cell? ⟨bf, off + k, none⟩ = some (.int .i64 fl[k]) := by
  obtain ⟨b, o, e, _, hc⟩ := h.fam (by omega)
  cases e
  have := hc k hk
  rwa [getD_lt hk] at this
set_option maxHeartbeats 8000000 in
set_option maxRecDepth 100000 in
theorem ruleOf_any (R n : Nat) (m : Int) (a : Option Addr) (len cap : Nat) (w : World) (hr : RD w R n) (hn : n < 1073730000) (hm5 : m ≤ 5) :
    Calls Try.prog 100 #[.pointer (some ⟨R, 0, none⟩), .agg #[.int .i64 m, .slice a len cap]] w (RulePost R (n + 12) w) := by
  obtain ⟨i0, hi0, hz0, hz1, hz2⟩ := info_parts info_int
  have H0 := hide (HI.new m (.slice a len cap) hr)
  have hRw := hr.lt
  clear hr
  go_enter Try.func100, Try.ntmps100
  go_wp2_with fail
  obtain ⟨W2, hW2e⟩ : ∃ W2 : World, W2 = (w.alloc (.cells #[.int .i64 m, .slice a len cap] 25)).alloc (.cells #[.int .i64 0, .slice none 0 0] 27) := ⟨_, rfl⟩
  have hWs : W2.heap.size = w.heap.size + 1 + 1 := by rw [hW2e]; simp
  rw [← hW2e] at H0 ⊢
  clear hW2e
  have hW2 := H0.out.2.2.2.2.1
  have hl1 : Ints (W2.alloc (.cells #[.int .i64 2, .int .i64 3, .int .i64 2, .int .i64 1] 3)) (some ⟨W2.heap.size, 0, none⟩) [2, 3, 2, 1] := litG W2 [2, 3, 2, 1]
  rw [hWs] at hl1
  have HL := hide hl1
  have B1 := hide (bel1 W2 (.cells #[.int .i64 2, .int .i64 3, .int .i64 2, .int .i64 1] 3))
  clear hl1
  refine (one_any R n 4 _ _ _ (H0.out.2.2.2.1.below B1.out) (by omega) HL.out (by simp) (by simp) (fun b o s e => by cases e; omega)).mono ?_
  rintro e w3 ⟨v, hv, rfl, g3, rd3⟩
  have hv13 : v = 1 ∨ v = 2 ∨ v = 3 := by
    simp only [List.mem_cons, List.not_mem_nil, or_false] at hv
    omega
  have H3 := (H0.out.below B1.out).pick g3 rd3
  have hw3 := H3.2.2.2.2.1
  have HB := hide (heap_alloc_new w3 (.cells #[.int .i64 v, .slice none 0 0] 27))
  have H4 := hide (H3.below (bel1 w3 (.cells #[.int .i64 v, .slice none 0 0] 27)))
  have v1 : 1 ≤ v := by omega
  have v3 : v ≤ 3 := by omega
  have HV := hide hv13
  clear hv hv13 g3 rd3 H0 HL B1 H3
  go_wp2_with fail
  refine (families_any v _ HV.out).mono ?_
  rintro e w5 ⟨fv, fl, rfl, ofl, b5, ⟨hfl0, hfl1⟩, hflr⟩
  obtain ⟨af, cf, rfl, ifl, hsep⟩ := ofl.form
  have H5 := H4.out.below b5
  have hB5 := (b5.block w3.heap.size (by simp)).trans HB.out
  have hsz5 := b5.size
  simp only [World.size_alloc] at hsz5 hsep
  clear ofl b5 HB H4 hflr
  go_wp2_with fail
  refine (pick_any R (n + 1) _ _ H5.2.2.2.1 (by omega) ⟨by omega, by omega⟩).mono ?_
  rintro e w6 ⟨r, rfl, hr0, hr4, _, g6, rd6⟩
  have HR0 := hide ((H5.pick g6 rd6).rule (B := w3.heap.size) (K := w5.heap.size) ((g6.block w3.heap.size (by omega) (by simp; omega)).trans hB5) (ifl.row g6 (fun b o s e e' => by have := (hsep b o s e).1; cases e'; omega)) (by omega) (by omega) g6.size (fun b o s e => by have := hsep b o s e; omega))
  obtain ⟨B, hB⟩ : ∃ B, B = w3.heap.size := ⟨_, rfl⟩
  obtain ⟨K, hK⟩ : ∃ K, K = w5.heap.size := ⟨_, rfl⟩
  rw [← hB, ← hK] at HR0
  rw [← hB]
  clear H5 hB5 hsz5 ifl hsep g6 rd6 hB hK hw3 hW2 hr4
  have p1 := pw_pos v
  have p2 := pw_le3 v v3
  have q1 := pw_pos (pw v)
  have q2 := pw_le8 (pw v) p2
  have hpz : ¬ (pw (pw v) = 0) := by omega
  go_wp2_with fail
  go_loopw [9] (fun i wq => ∃ (vv : Value) (ws : List Int), ws.length ≤ 5 ∧ i = .int .i64 ws.length ∧ RI R w B K m (.slice a len cap) v (n + 2 + ws.length) vv ws af fl wq) (fun i _ => 6 - (intOf i).toNat)
  case atStart => exact ⟨_, [], by simp, rfl, HR0.out⟩
  case round =>
    clear HR0
    obtain ⟨vv, ws, hj5, rfl, hs⟩ := hrel
    have c0 := cell_of_block hs.1 0
    obtain ⟨av, cv, rfl, _, _⟩ := hs.own.form
    by_cases hlt : (ws.length : Int) < m
    · by_cases e0 : (r == 0) = true
      · have HS := hide hs
        clear hs
        go_wp2_with fail
        go_loop [10, 11] (fun z g => ∃ (t : Nat) (y : Int), (t : Int) ≤ pw v ∧ g = .int .i64 t ∧ z = .int .i64 y ∧ 0 ≤ y ∧ y < pw (t : Int)) (fun _ g => 8 - (intOf g).toNat)
        case atStart => exact ⟨0, 0, by omega, rfl, rfl, by omega, by show (0 : Int) < 1; omega⟩
        case round =>
          obtain ⟨t, y, ht, rfl, rfl, hy0, hy1⟩ := hrel
          have t1 := pw_pos (t : Int)
          have t2 := pw_le8 (t : Int) (by omega)
          by_cases hlt2 : (t : Int) < pw v
          · have HT := hide (pw_succ (t : Int) (by omega))
            obtain ⟨b, hb⟩ : ∃ b, b = bitN ((t : Int)).toNat (v - 1).toNat := ⟨_, rfl⟩
            have HBB := hide hb
            clear hb
            by_cases hb1 : b = 1
            · subst hb1
              go_wp2_with (first
                | (go_at_call 64; refine (powerL_any _ _ (by omega) (by omega)).mono ?_; rintro e w' ⟨rfl, rfl⟩)
                | (go_at_call 82; refine (bitZ_any _ _ _ ⟨by omega, by omega⟩ ⟨by omega, by omega⟩).mono ?_; rintro e w' ⟨rfl, rfl⟩; rw [← HBB.out]))
              go_round
              case rel => exact ⟨t + 1, y + pw (t : Int), by omega, by go_num, rfl, by omega, by have := HT.out; rw [show ((t + 1 : Nat) : Int) = (t : Int) + 1 from by omega, this]; omega⟩
              case measure => simp only [intOf]; omega
            · have hbf : ((b : Int) == 1) = false := by rw [beq_eq_false_iff_ne]; omega
              go_wp2_with (first
                | (go_at_call 64; refine (powerL_any _ _ (by omega) (by omega)).mono ?_; rintro e w' ⟨rfl, rfl⟩)
                | (go_at_call 82; refine (bitZ_any _ _ _ ⟨by omega, by omega⟩ ⟨by omega, by omega⟩).mono ?_; rintro e w' ⟨rfl, rfl⟩; rw [← HBB.out]))
              go_round
              case rel => exact ⟨t + 1, y, by omega, by go_num, rfl, by omega, by have := HT.out; rw [show ((t + 1 : Nat) : Int) = (t : Int) + 1 from by omega, this]; omega⟩
              case measure => simp only [intOf]; omega
          · go_upto_region 17 with (go_at_call 64; refine (powerL_any _ _ (by omega) (by omega)).mono ?_; rintro e w' ⟨rfl, rfl⟩)
            have g1 := cell_of_block HS.out.blk 1
            have f1 := unfrozen_of_block HS.out.blk 1
            have hws := HS.out.size.1
            have hown := HS.out.own
            go_wp2_with ((at_builtin; refine wpList_append_own _ rfl _ _ 23 rfl K 3 i0 (.int .i64 0) 1 8 Try.underlying23 hi0 hz0 hz1 hz2 rfl (by decide) _ _ _ rfl (hown.alloc _) ⟨wr.heap.size, 0, none⟩ 1 1 [.int .i64 y] rfl rfl (cell_one_new wr _ _) (by intro u hu; simp at hu; subst hu; rfl) (by unfold maxLen; omega) (by omega) (by first | omega | (simp; omega)) ?_))

            intro v' w5 hown' hgrow _
            obtain ⟨HP, hb5⟩ := (HS.out.below (bel1 wr (.cells #[.int .i64 y] 3))).push hgrow hown'
            obtain ⟨zz, hzz⟩ : ∃ zz : List Int, zz = ws ++ [y] := ⟨_, rfl⟩
            rw [← hzz] at HP
            have hzl : zz.length = ws.length + 1 := by rw [hzz, List.length_append]; rfl
            obtain ⟨av', cv', rfl, _, _⟩ := HP.own.form
            have f5 := unfrozen_of_block hb5 1
            have g5 := cell_of_block hb5 1
            have HZ := hide hzl
            have HQ := hide HP
            clear hown hown' hgrow hb5 HP hzz hzl g1 f1 hws
            go_wp2
            go_roundw
            case rel => exact ⟨_, zz, by have := HZ.out; omega, by rw [HZ.out]; go_num, HQ.out.more (by have := HZ.out; omega)⟩
            case measure => simp only [intOf]; have := HZ.out; omega
      · have e0 : (r == 0) = false := by simpa using e0
        by_cases e1 : (r == 1) = true
        · have HS := hide hs
          clear hs
          go_upto_region 19 with fail
          have hsd := HS.out.drew
          have d1 := cell_of_block hsd.blk 1
          go_region_law (first
            | (go_simp; go_at_call 64; refine (powerL_any _ _ (by omega) (by omega)).mono ?_; rintro e w' ⟨rfl, rfl⟩; go_wp2_with fail)
            | (go_simp; go_at_call 119; refine (pick_any R _ _ _ hsd.rd (by omega) ⟨by omega, by omega⟩).mono ?_; rintro e w3 ⟨y, rfl, hy0, _, _, g3, rd3⟩; have hs3 := hsd.pick g3 rd3; have k3 := cell_of_block hs3.blk 1; have hown3 := hs3.own; have hw3 := hs3.size.1; have k4 : ∀ o : Obj, (w3.alloc o).cell? ⟨B, 1, none⟩ = some (.slice av ws.length cv) := fun o => cell_of_block (hs3.below (bel1 w3 o)).blk 1; go_wp2_with fail)
            | (refine step_append_own (by rfl) _ _ 23 (by rfl) K 3 i0 (.int .i64 0) 1 8 Try.underlying23 hi0 hz0 hz1 hz2 rfl (by decide) _ ws.length (ws.map (Value.int .i64)) (by rfl) (hown3.alloc _) ⟨w3.heap.size, 0, none⟩ 1 1 [.int .i64 (Int.tmod y (pw (pw v)))] (by rfl) (by rfl) (World.news_of_block (cs := #[.int .i64 (Int.tmod y (pw (pw v)))]) (t := 3) (fr := (0, 0)) (heap_alloc_new w3 _)) (by simp [Value.oneCell']) (by unfold maxLen; omega) (by omega) (by first | omega | (simp; omega)) ?_; intro v7 w7 hown7 hgrow7 _; obtain ⟨gg, cc, rfl, hgb, hgl⟩ := World.ownsRow.form hown7 (by omega); obtain ⟨HP5, hb5⟩ := (hs3.below (bel1 w3 (.cells #[.int .i64 (Int.tmod y (pw (pw v)))] 3))).push hgrow7 hown7; have f5 := unfrozen_of_block hb5 1; have g5 := cell_of_block hb5 1; clear hown7 hgrow7 hgb hgl hb5)
            | (refine step_append_own (by rfl) _ _ 23 (by rfl) K 3 i0 (.int .i64 0) 1 8 Try.underlying23 hi0 hz0 hz1 hz2 rfl (by decide) _ ws.length (ws.map (Value.int .i64)) (by rfl) (hown3.alloc _) ⟨w3.heap.size, 0, none⟩ 1 1 [.int .i64 (y % pw (pw v))] (by rfl) (by rfl) (World.news_of_block (cs := #[.int .i64 (y % pw (pw v))]) (t := 3) (fr := (0, 0)) (heap_alloc_new w3 _)) (by simp [Value.oneCell']) (by unfold maxLen; omega) (by omega) (by first | omega | (simp; omega)) ?_; intro v7 w7 hown7 hgrow7 _; obtain ⟨gg, cc, rfl, hgb, hgl⟩ := World.ownsRow.form hown7 (by omega); obtain ⟨HP5, hb5⟩ := (hs3.below (bel1 w3 (.cells #[.int .i64 (y % pw (pw v))] 3))).push hgrow7 hown7; have f5 := unfrozen_of_block hb5 1; have g5 := cell_of_block hb5 1; clear hown7 hgrow7 hgb hgl hb5))
          all_goals
            obtain ⟨zz, hzz⟩ : ∃ zz : List Int, zz = ws ++ [Int.tmod y (pw (pw v))] := ⟨_, rfl⟩
            rw [← hzz] at HP5
            have HZ := hide (show zz.length = ws.length + 1 by rw [hzz, List.length_append]; rfl)
            have HQ := hide HP5
            clear HP5 hzz
            go_wp2
            go_roundw
            case rel => exact ⟨_, zz, by have := HZ.out; omega, by rw [HZ.out]; go_num, HQ.out.more (by have := HZ.out; omega)⟩
            case measure => simp only [intOf]; have := HZ.out; omega
        · have e1 : (r == 1) = false := by simpa using e1
          obtain ⟨bf, of, rfl, hbf, _⟩ := hs.fam hfl0
          have HS := hide hs
          clear hs
          go_upto_region 9 with fail
          have hsd := HS.out.drew
          have d1 := cell_of_block hsd.blk 1
          go_region_law (first
            | (go_simp; go_at_call 64; refine (powerL_any _ _ (by omega) (by omega)).mono ?_; rintro e w' ⟨rfl, rfl⟩; go_wp2_with fail)
            | (go_simp; go_at_call 119; refine (pick_any R _ _ _ hsd.rd (by omega) ⟨by omega, by omega⟩).mono ?_; rintro e w3 ⟨y, rfl, hy0, hyl, _, g3, rd3⟩; obtain ⟨t, rfl⟩ := Int.eq_ofNat_of_zero_le hy0; have htl : t < fl.length := (by have := hyl (by omega); omega); have hs3 := hsd.pick g3 rd3; have k3 := cell_of_block hs3.blk 1; have hown3 := hs3.own; have hw3 := hs3.size.1; have hck := hs3.famAt htl; have k4 : ∀ o : Obj, (w3.alloc o).cell? ⟨B, 1, none⟩ = some (.slice av ws.length cv) := fun o => cell_of_block (hs3.below (bel1 w3 o)).blk 1; clear hyl; go_wp2_with fail)
            | (refine step_append_own (by rfl) _ _ 23 (by rfl) K 3 i0 (.int .i64 0) 1 8 Try.underlying23 hi0 hz0 hz1 hz2 rfl (by decide) _ ws.length (ws.map (Value.int .i64)) (by rfl) (hown3.alloc _) ⟨w3.heap.size, 0, none⟩ 1 1 [.int .i64 (fl[t])] (by rfl) (by rfl) (World.news_of_block (cs := #[.int .i64 (fl[t])]) (t := 3) (fr := (0, 0)) (heap_alloc_new w3 _)) (by simp [Value.oneCell']) (by unfold maxLen; omega) (by omega) (by first | omega | (simp; omega)) ?_; intro v7 w7 hown7 hgrow7 _; obtain ⟨gg, cc, rfl, hgb, hgl⟩ := World.ownsRow.form hown7 (by omega); obtain ⟨HP5, hb5⟩ := (hs3.below (bel1 w3 (.cells #[.int .i64 (fl[t])] 3))).push hgrow7 hown7; have f5 := unfrozen_of_block hb5 1; have g5 := cell_of_block hb5 1; clear hown7 hgrow7 hgb hgl hb5))
          all_goals
            obtain ⟨zz, hzz⟩ : ∃ zz : List Int, zz = ws ++ [fl[t]] := ⟨_, rfl⟩
            rw [← hzz] at HP5
            have HZ := hide (show zz.length = ws.length + 1 by rw [hzz, List.length_append]; rfl)
            have HQ := hide HP5
            clear HP5 hzz
            go_wp2
            go_roundw
            case rel => exact ⟨_, zz, by have := HZ.out; omega, by rw [HZ.out]; go_num, HQ.out.more (by have := HZ.out; omega)⟩
            case measure => simp only [intOf]; have := HZ.out; omega
    · have HS := hide hs
      clear hs
      go_wp2_with fail
      refine (pick_any R (n + 2 + ws.length) _ _ HS.out.rd (by omega) ⟨by omega, by omega⟩).mono ?_
      rintro e w7 ⟨r2, rfl, _, _, _, g7, rd7⟩
      have H7 := hide (HS.out.pick g7 rd7)
      clear HS g7 rd7 c0
      by_cases k0 : (r2 == 0) = true
      · have hl3 : Ints (w7.alloc (.cells #[.int .i64 0, .int .i64 4, .int .i64 (-1)] 3)) (some ⟨w7.heap.size, 0, none⟩) [0, 4, -1] := litG w7 [0, 4, -1]
        have HL3 := hide hl3
        have BX := hide (bel1 w7 (.cells #[.int .i64 0, .int .i64 4, .int .i64 (-1)] 3))
        have hR7 := H7.out.rd.lt
        clear hl3
        go_wp2_with fail
        refine (one_any R _ 3 _ _ _ (H7.out.rd.below BX.out) (by omega) HL3.out (by simp) (by simp) (fun b o s e => by cases e; omega)).mono ?_
        rintro e w8 ⟨x, hx, rfl, g8, rd8⟩
        have HX4 : Hid (x ≤ 4) := by
          unfold Hid
          simp only [List.mem_cons, List.not_mem_nil, or_false] at hx
          omega
        clear hx
        have H8 := (H7.out.below BX.out).pick g8 rd8
        have q0 := cell_of_block H8.blk 0
        have u0 := unfrozen_of_block H8.blk 0
        have H9 := hide (H8.set0 (x := x))
        clear H8 g8 rd8 H7 HL3 BX
        have e0 := cell_of_block H9.out.blk 0
        have e1 := cell_of_block H9.out.blk 1
        have r0 := cell_of_block H9.out.2.1 0
        have r1 := cell_of_block H9.out.2.1 1
        have f0 := unfrozen_of_block H9.out.2.1 0
        have f1 := unfrozen_of_block H9.out.2.1 1
        go_wp2_with fail
        refine bodyPost_ret (ret_rule rfl _ _ _ _ _ rfl (block_setCell (i := 1) (block_setCell (i := 0) H9.out.2.1 _) _)) rfl ?_
        exact H9.out.done (by omega) HX4.out (by omega) _ _
      · have k0 : (r2 == 0) = false := by simpa using k0
        by_cases k1 : (r2 == 1) = true
        · have hz00 : (0 : Int) = 0 := rfl
          have g1 := cell_of_block H7.out.blk 1
          have f1 := unfrozen_of_block H7.out.blk 1
          have hws := H7.out.size.1
          have hown := H7.out.own
          go_wp2_with ((at_builtin; refine wpList_append_own _ rfl _ _ 23 rfl K 3 i0 (.int .i64 0) 1 8 Try.underlying23 hi0 hz0 hz1 hz2 rfl (by decide) _ _ _ rfl (hown.alloc _) ⟨w7.heap.size, 0, none⟩ 1 1 [.int .i64 0] rfl rfl (cell_one_new w7 _ _) (by intro u hu; simp at hu; subst hu; rfl) (by unfold maxLen; omega) (by omega) (by first | omega | (simp; omega)) ?_))

          intro v' w5 hown' hgrow _
          obtain ⟨HP, hb5⟩ := (H7.out.below (bel1 w7 (.cells #[.int .i64 0] 3))).push hgrow hown'
          obtain ⟨zz, hzz⟩ : ∃ zz : List Int, zz = ws ++ [0] := ⟨_, rfl⟩
          rw [← hzz] at HP
          have hzl : zz.length = ws.length + 1 := by rw [hzz, List.length_append]; rfl
          obtain ⟨av', cv', rfl, _, _⟩ := HP.own.form
          have f5 := unfrozen_of_block hb5 1
          have g5 := cell_of_block hb5 1
          have HZ := hide hzl
          have HQ := hide HP
          clear hown hown' hgrow hb5 HP hzz hzl g1 f1 hws
          have HQ2 := HQ.out
          have e0 := cell_of_block HQ2.blk 0
          have e1 := cell_of_block HQ2.blk 1
          have r0 := cell_of_block HQ2.2.1 0
          have r1 := cell_of_block HQ2.2.1 1
          have f0 := unfrozen_of_block HQ2.2.1 0
          have f1 := unfrozen_of_block HQ2.2.1 1
          clear HQ2
          go_wp2_with fail
          refine bodyPost_ret (ret_rule rfl _ _ _ _ _ rfl (block_setCell (i := 1) (block_setCell (i := 0) HQ.out.2.1 _) _)) rfl ?_
          exact HQ.out.done (by have := HZ.out; omega) (by omega) (by omega) _ _
        · have k1 : (r2 == 1) = false := by simpa using k1
          by_cases k2 : (r2 == 2) = true
          · by_cases hpos : 0 < ws.length
            · obtain ⟨g0, cc, hvv, hgb, hgl⟩ := World.ownsRow.form (show w7.ownsRow K 3 1 (.slice av ws.length cv) ws.length (ws.map (Value.int .i64)) from H7.out.own) hpos
              simp only [Value.slice.injEq, true_and] at hvv
              obtain ⟨rfl, rfl⟩ := hvv
              have hX1 := H7.out.drew.below (bel1 w7.drew (.cells #[.int .i64 (-1), .int .i64 256, .int .i64 16] 3))
              have hX2 := (H7.out.below (bel1 w7 (.cells #[.int .i64 (-1), .int .i64 256, .int .i64 16] 3))).drew
              have hL1 : Ints (w7.drew.alloc (.cells #[.int .i64 (-1), .int .i64 256, .int .i64 16] 3)) (some ⟨w7.heap.size, 0, none⟩) [-1, 256, 16] := litG w7.drew [-1, 256, 16]
              have hL2 : Ints (w7.alloc (.cells #[.int .i64 (-1), .int .i64 256, .int .i64 16] 3)).drew (some ⟨w7.heap.size, 0, none⟩) [-1, 256, 16] := (litG w7 [-1, 256, 16]).below (bdrew' (Below.refl _ _))
              have hR7 := H7.out.rd.lt
              have q2 := cell_of_block H7.out.blk 1
              have q1 := cell_of_block H7.out.drew.blk 1
              have q3 := cell_of_block hX2.blk 1
              have q4 := cell_of_block hX1.blk 1
              have hpI : (0 : Int) < (ws.length : Int) := by omega
              have hsz7 := H7.out.size.1
              go_upto_region 27 with fail
              go_region_law (first
                | (go_simp; go_at_call 74; refine (one_any R _ 3 _ _ _ hX1.rd (by omega) hL1 (by simp) (by simp) (fun b o s e => by cases e; omega)).mono ?_; rintro e w8 ⟨x, _, rfl, g8, rd8⟩; have H8 := hX1.pick g8 rd8; have k8 := cell_of_block H8.blk 1; have o8 : w8.ownsRow K 3 1 (.slice (some ⟨g0, 0, none⟩) ws.length cv) ws.length (ws.map (Value.int .i64)) := H8.own; have s8 := o8.cellAt 0 (by omega); rw [List.getElem?_map, List.getElem?_eq_getElem hpos] at s8; have f8 := o8.frozenAt 0; go_wp2_with fail)
                | (go_simp; go_at_call 74; refine (one_any R _ 3 _ _ _ hX2.rd (by omega) hL2 (by simp) (by simp) (fun b o s e => by cases e; omega)).mono ?_; rintro e w8 ⟨x, _, rfl, g8, rd8⟩; have H8 := hX2.pick g8 rd8; have k8 := cell_of_block H8.blk 1; have o8 : w8.ownsRow K 3 1 (.slice (some ⟨g0, 0, none⟩) ws.length cv) ws.length (ws.map (Value.int .i64)) := H8.own; have s8 := o8.cellAt 0 (by omega); rw [List.getElem?_map, List.getElem?_eq_getElem hpos] at s8; have f8 := o8.frozenAt 0; go_wp2_with fail)
                | fail)
              all_goals
                have HR := hide (H8.row rfl (o8.stored 0 (.int .i64 x)).2 (show Owns (w8.setCell ⟨g0, 0, none⟩ (.int .i64 x)) K (.slice (some ⟨g0, 0, none⟩) ws.length cv) (ws.set 0 x) by unfold Owns; rw [List.length_set, List.map_set]; exact (o8.stored 0 (.int .i64 x)).1))
                have HRL := hide (show (ws.set 0 x).length ≤ 8 by rw [List.length_set]; omega)
                clear H8 o8 s8 f8 k8 g8 rd8 hX1 hX2 hL1 hL2
                have e0 := cell_of_block HR.out.blk 0
                have e1 := cell_of_block HR.out.blk 1
                have r0 := cell_of_block HR.out.2.1 0
                have r1 := cell_of_block HR.out.2.1 1
                have f0 := unfrozen_of_block HR.out.2.1 0
                have f1 := unfrozen_of_block HR.out.2.1 1
                go_wp2_with fail
                refine bodyPost_ret (ret_rule rfl _ _ _ _ _ rfl (block_setCell (i := 1) (block_setCell (i := 0) HR.out.2.1 _) _)) rfl ?_
                exact HR.out.done HRL.out (by omega) (by omega) _ _
            · have hpI : ¬ (0 : Int) < (ws.length : Int) := by omega
              have q2 := cell_of_block H7.out.blk 1
              have e0 := cell_of_block H7.out.blk 0
              have e1 := cell_of_block H7.out.blk 1
              have r0 := cell_of_block H7.out.2.1 0
              have r1 := cell_of_block H7.out.2.1 1
              have f0 := unfrozen_of_block H7.out.2.1 0
              have f1 := unfrozen_of_block H7.out.2.1 1
              go_wp2_with fail
              refine bodyPost_ret (ret_rule rfl _ _ _ _ _ rfl (block_setCell (i := 1) (block_setCell (i := 0) H7.out.2.1 _) _)) rfl ?_
              exact H7.out.done (by omega) (by omega) (by omega) _ _
          · have k2 : (r2 == 2) = false := by simpa using k2
            have e0 := cell_of_block H7.out.blk 0
            have e1 := cell_of_block H7.out.blk 1
            have r0 := cell_of_block H7.out.2.1 0
            have r1 := cell_of_block H7.out.2.1 1
            have f0 := unfrozen_of_block H7.out.2.1 0
            have f1 := unfrozen_of_block H7.out.2.1 1
            go_wp2_with fail
            refine bodyPost_ret (ret_rule rfl _ _ _ _ _ rfl (block_setCell (i := 1) (block_setCell (i := 0) H7.out.2.1 _) _)) rfl ?_
            exact H7.out.done (by omega) (by omega) (by omega) _ _
end Go.Proofs.Ytnmfhnieknckcaa
