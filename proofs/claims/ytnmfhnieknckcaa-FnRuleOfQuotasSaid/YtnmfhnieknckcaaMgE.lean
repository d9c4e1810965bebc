/- Texts of this seat one behind the other: DrawP, DrawQ, DrawRQ, RqM, PQsafe. Conditions: none. -/
import Derived.Test.YtnmfhnieknckcaaDrawL
import Derived.Test.YtnmfhnieknckcaaDrawT
import Derived.Test.YtnmfhnieknckcaaMgD
import Derived.Test.YtnmfhnieknckcaaMgC
import Derived.Deep.RegionHeld3

/- DrawP: The draws of a space with numbers: NearestTo, InSpace, BetweenOf. -/
namespace Go.Proofs.Ytnmfhnieknckcaa
open Go.RowKit Go.Joins

/-- three results, the first in a cell -/
theorem ret_cross3 {fn : Func} {p u u' : Tmp} (h : fn.results = #[.cell p 25, .tmp u, .tmp u']) (tmps : Array Value) (w : World) (g : Nat) (x y : Value)
    (hp : tmps.getD p undef = .pointer (some ⟨g, 0, none⟩)) (hw : w.heap[g]? = some (.cells #[x, y] 25 (0, 0))) :
    (results fn tmps).run Try.prog w = .ok (.tuple #[.agg #[x, y], tmps.getD u undef, tmps.getD u' undef]) w := by
  have c0 := cell_of_block hw 0
  have c1 := cell_of_block hw 1
  have hr : (results fn tmps).run Try.prog w = ((asAddr (tmps.getD p undef)).run Try.prog w).andThen fun a w₁ => ((loadVar 25 a).run Try.prog w₁).andThen fun v w₂ => .ok (.tuple #[v, tmps.getD u undef, tmps.getD u' undef]) w₂ := by
    simp only [results, h]
    simp [Sem.run_bind, Result.andThen]
  rw [hr, hp]
  simp [go_sem] at c0 c1 ⊢
  simp [c0, c1, go_sem]

end Go.Proofs.Ytnmfhnieknckcaa

/- DrawQ: The draw of quotas. -/
namespace Go.Proofs.Ytnmfhnieknckcaa
open Go.RowKit Go.Joins

/-- a list under way: the list, the reader -/
def UI (R : Nat) (w : World) (n : Nat) (v : Value) (ls : List Int) (wq : World) : Prop :=
  Owns wq w.heap.size v ls ∧ w.grownBy wq (some R) ∧ RD wq R n ∧ w.heap.size ≤ wq.heap.size ∧ R < w.heap.size
theorem UI.rd {R : Nat} {w : World} {n : Nat} {v : Value} {ls : List Int} {wq : World} (h : UI R w n v ls wq) : RD wq R n := h.2.2.1
theorem UI.new {R : Nat} {w : World} {n : Nat} (h : RD w R n) :
    UI R w n (.slice (some ⟨w.heap.size, 0, none⟩) 0 0) [] (w.alloc (.cells #[] 3)) :=
  ⟨Owns.empty w (Nat.le_refl _), gbelow (grefl0 w R) (bel1 w _), h.below (bel1 w _), by simp, h.lt⟩
theorem UI.below {R : Nat} {w : World} {n : Nat} {v : Value} {ls : List Int} {wq w' : World} (h : UI R w n v ls wq) (hb : Below wq.heap.size wq w') : UI R w n v ls w' := by
  obtain ⟨h2, h3, h4, h5, h6⟩ := h
  exact ⟨h2.below hb, gbelow h3 (hb.mono (by omega)), h4.below hb, Nat.le_trans h5 hb.size, h6⟩
theorem UI.drew {R : Nat} {w : World} {n : Nat} {v : Value} {ls : List Int} {wq : World} (h : UI R w n v ls wq) : UI R w n v ls wq.drew := h.below (bdrew' (Below.refl _ _))
theorem UI.pick {R : Nat} {w : World} {n k : Nat} {v : Value} {ls : List Int} {wq w' : World} (h : UI R w n v ls wq) (hg : wq.grownBy w' (some R)) (hr : RD w' R k) : UI R w k v ls w' := by
  obtain ⟨h2, h3, _, h5, h6⟩ := h
  exact ⟨h2.other hg (fun g e => by cases e; omega), gpick h3 hg, hr, Nat.le_trans h5 hg.size, h6⟩
theorem UI.more {R : Nat} {w : World} {n k : Nat} {v : Value} {ls : List Int} {wq : World} (h : UI R w n v ls wq) (hk : n ≤ k) : UI R w k v ls wq :=
  ⟨h.1, h.2.1, h.2.2.1.more hk, h.2.2.2⟩
theorem UI.push {R : Nat} {w : World} {z : Int} {n : Nat} {v v' : Value} {ls : List Int} {wq w5 : World} {o : Obj} (h : UI R w n v ls wq) (hg : (wq.alloc o).grownBy w5 v.ownBlock)
    (ho : w5.ownsRow w.heap.size 3 1 v' (ls.length + 1) (ls.map (Value.int .i64) ++ [.int .i64 z])) : UI R w n v' (ls ++ [z]) w5 := by
  obtain ⟨h2, h3, h4, h5, h6⟩ := h.below (bel1 wq o)
  exact ⟨Owns.push ho, gbelow h3 ((Below.refl _ _).grown hg (by omega) (fun k hk => by have := own_ge h2 k hk; omega)), h4.grown hg (fun g e => by have := own_ge h2 g e; omega), Nat.le_trans h5 hg.size, h6⟩
/-- a write into the list -/
theorem UI.row {R : Nat} {w : World} {n : Nat} {v v' : Value} {ls ls' : List Int} {wq w5 : World} {k : Nat} (h : UI R w n v ls wq) (hk : v.ownBlock = some k) (hg : wq.grownBy w5 (some k)) (ho : Owns w5 w.heap.size v' ls') : UI R w n v' ls' w5 := by
  obtain ⟨h2, h3, h4, h5, h6⟩ := h
  have hge := own_ge h2 k hk
  exact ⟨ho, gbelow h3 ((Below.refl _ _).grown hg (by omega) (fun j hj => by cases hj; omega)), h4.grown hg (fun g e => by cases e; omega), Nat.le_trans h5 hg.size, h6⟩
theorem UI.done {R : Nat} {w : World} {n k : Nat} {v : Value} {ls : List Int} {wq : World} (h : UI R w n v ls wq) (hl : ls.length ≤ 10) (hk : n ≤ k) : VotesPost R k w (.returned v) wq :=
  ⟨v, ls, rfl, h.1, hl, h.2.1, h.2.2.1.more hk⟩
theorem litq (w : World) (a b : Int) : Ints (w.alloc (.cells #[.int .i64 a, .int .i64 b] 3)) (some ⟨w.heap.size, 0, none⟩) [a, b] := fun _ =>
  ⟨w.heap.size, 0, rfl, by simp, fun k hk => by
    match k, hk with
    | 0, _ => simp [go_sem]
    | 1, _ => simp [go_sem]⟩
set_option maxHeartbeats 8000000 in
set_option maxRecDepth 100000 in
theorem quotasOf_any (R n : Nat) (m k : Int) (w : World) (hr : RD w R n) (hn : n < 1073730000) (hm : m ≤ 5) (hk : k ≤ 16) :
    Calls Try.prog 75 #[.pointer (some ⟨R, 0, none⟩), .int .i64 m, .int .i64 k] w (VotesPost R (n + 8) w) := by
  obtain ⟨i0, hi0, hz0, hz1, hz2⟩ := info_parts info_int
  have V0 := UI.new hr
  have hRw := hr.lt
  clear hr
  go_enter Try.func75, Try.ntmps75
  go_wp2_with fail
  go_loopw [7] (fun v wq => ∃ ls : List Int, ls.length ≤ 5 ∧ UI R w (n + ls.length) v ls wq) (fun v _ => lackOf 5 v)
  case atStart => exact ⟨[], by simp, V0⟩
  case round =>
    clear V0
    obtain ⟨ls, hl5, hs⟩ := hrel
    obtain ⟨va, vc, rfl, _, _⟩ := hs.1.form
    by_cases hlt : (ls.length : Int) < m
    · by_cases hk1 : k < 1
      all_goals
          have HS := hide hs
          clear hs
          go_wp2_with fail
          refine (pick_any R (n + ls.length) _ _ HS.out.rd (by omega) ⟨by omega, by omega⟩).mono ?_
          rintro e w3 ⟨y, rfl, hy0, hyl, _, g, rd⟩
          have V3 := HS.out.pick g rd
          have hown := V3.1
          have hw3 := V3.2.2.2.1
          have hy16 : y < 16 := by have := hyl (by omega); omega
          have HV := hide V3
          clear HS g rd V3 hyl
          go_wp2_with ((at_builtin; refine wpList_append_own _ rfl _ _ 23 rfl w.heap.size 3 i0 (.int .i64 0) 1 8 Try.underlying23 hi0 hz0 hz1 hz2 rfl (by decide) _ _ _ rfl (hown.alloc _) ⟨w3.heap.size, 0, none⟩ 1 1 [.int .i64 (1 + y)] rfl rfl (cell_one_new w3 _ _) (by intro u hu; simp at hu; subst hu; rfl) (by unfold maxLen; omega) (by omega) (by first | omega | (simp; omega)) ?_))
          intro v' w5 hown' hgrow _
          have V5 := HV.out.push hgrow hown'
          obtain ⟨zz, hzz⟩ : ∃ zz : List Int, zz = ls ++ [1 + y] := ⟨_, rfl⟩
          rw [← hzz] at V5
          have hzl : zz.length = ls.length + 1 := by rw [hzz, List.length_append]; rfl
          obtain ⟨qa, qc, rfl, _⟩ := V5.1.form
          have HZ := hide hzl
          have HQ := hide V5
          clear hown hown' hgrow V5 hzz hzl hw3
          go_wp2
          go_roundw
          case rel => exact ⟨zz, by have := HZ.out; omega, by have := HQ.out.more (k := n + zz.length) (by have := HZ.out; omega); exact this⟩
          case measure => simp only [lackOf]; have := HZ.out; omega
    · by_cases hpos : 0 < ls.length
      · have HV := hide hs
        clear hs
        go_wp2_with fail
        refine (pick_any R (n + ls.length) _ _ HV.out.rd (by omega) ⟨by omega, by omega⟩).mono ?_
        rintro e w3 ⟨r, rfl, _, _, _, g, rd⟩
        have V3 := HV.out.pick g rd
        clear g rd HV
        by_cases e0 : (r == 0) = true
        · have hl3 := litq w3 0 6
          have V4 := hide (V3.below (bel1 w3 (.cells #[.int .i64 0, .int .i64 6] 3)))
          have hw3 := V3.2.2.2.1
          clear V3
          go_wp2_with fail
          have ho := one_any R (n + ls.length + 1) 2 _ _ _ V4.out.rd (by omega) hl3 (by simp) (by simp) (fun b o s e => by cases e; omega)
          refine ho.mono ?_
          rintro e w5 ⟨x, _, rfl, g, rd⟩
          have V5 := hide (V4.out.pick g rd)
          have h5 := V5.out.1
          have h5' : w5.ownsRow w.heap.size 3 1 (.slice va ls.length vc) ls.length (ls.map (Value.int .i64)) := h5
          rcases ownsRow_forms h5' with ⟨_, h0⟩ | ⟨gb, cap', hv⟩
          · omega
          · simp only [Value.slice.injEq] at hv
            obtain ⟨rfl, hv2, hv3⟩ := hv
            clear hv2 hv3
            have hst := h5'.cellAt 0 (by omega)
            rw [List.getElem?_map, List.getElem?_eq_getElem hpos] at hst
            have hfz := h5'.frozenAt 0
            have HST := hide (h5'.stored 0 (.int .i64 x))
            clear ho g rd h5 h5' hl3
            go_wp2
            go_ret
            have H1 := HST.out.1
            rw [show (ls.map (Value.int .i64)).set 0 (.int .i64 x) = (ls.set 0 x).map (Value.int .i64) from by rw [List.map_set]] at H1
            have ho' : Owns (w5.setCell ⟨gb, 0, none⟩ (.int .i64 x)) w.heap.size (.slice (some ⟨gb, 0, none⟩) ls.length vc) (ls.set 0 x) := by
              unfold Owns
              rw [List.length_set]
              exact H1
            have V6 := V5.out.row (k := gb) rfl (gset _ gb 0 _) ho'
            refine UI.done (n := n + ls.length + 1 + 1) (k := n + 8) V6 ?_ ?_
            · rw [List.length_set]; omega
            · omega
        · have e0 : (r == 0) = false := by simpa using e0
          have HV3 := hide V3
          clear V3
          go_wp2
          go_ret
          exact HV3.out.done (by omega) (by omega)
      · have HV := hide hs
        clear hs
        go_wp2
        go_ret
        exact HV.out.done (k := n + 8) (by omega) (by omega)
/-- What a draw of a space, votes and quotas leaves. -/
def DrawSVQPost (w : World) (e : Ending) (w' : World) : Prop :=
  ∃ (m : Int) (a : Option Addr) (zs : List Int) (cap : Nat) (l : Option Addr) (ls : List Int) (capl : Nat) (q : Option Addr) (qs : List Int) (capq : Nat), e = .returned (.tuple #[.agg #[.int .i64 m, .slice a zs.length cap], .slice l ls.length capl, .slice q qs.length capq]) ∧ Ints w' a zs ∧ zs.length ≤ 65 ∧ Ints w' l ls ∧ ls.length ≤ 10 ∧ Ints w' q qs ∧ qs.length ≤ 10 ∧ Below w.heap.size w w'
end Go.Proofs.Ytnmfhnieknckcaa

/- DrawRQ: The draws of a space, a number and quotas. -/
namespace Go.Proofs.Ytnmfhnieknckcaa
open Go.RowKit Go.Joins

/-- What a draw of a space, a number and quotas leaves. -/
def DrawSIQPost (w : World) (e : Ending) (w' : World) : Prop :=
  ∃ (m : Int) (a : Option Addr) (zs : List Int) (cap : Nat) (k : Int) (q : Option Addr) (qs : List Int) (capq : Nat), e = .returned (.tuple #[.agg #[.int .i64 m, .slice a zs.length cap], .int .i64 k, .slice q qs.length capq]) ∧ Ints w' a zs ∧ zs.length ≤ 65 ∧ Ints w' q qs ∧ qs.length ≤ 10 ∧ Below w.heap.size w w'
theorem litQ (w : World) (zs : List Int) : Ints (w.alloc (.cells (zs.map (Value.int .i64)).toArray 3)) (some ⟨w.heap.size, 0, none⟩) zs := fun _ =>
  ⟨w.heap.size, 0, rfl, by simp, fun k hk => by simp [go_sem, hk, List.getD_eq_getElem?_getD]⟩
set_option maxHeartbeats 4000000 in
set_option maxRecDepth 100000 in
theorem drawRuleOfQuotas_any (a : Option Addr) (cap : Nat) (zs : List Nat) (w : World) (hi : Byts w a zs) (hl : zs.length ≤ 1048576) (hc : zs.length ≤ cap) :
    Calls Try.prog 32 #[.slice a zs.length cap] w (DrawSIQPost w) := by
  have h0 := heap_alloc_new w (.cells #[.int .i64 0, .slice none 0 0] 25)
  have b0 := bel1 w (.cells #[.int .i64 0, .slice none 0 0] 25)
  have hi0 := hi.below b0
  have H0 := hide h0
  have HB0 := hide b0
  clear hi h0 b0
  go_enter Try.func32, Try.ntmps32
  go_wp2_with fail
  refine (newReader_any _ _ _ _ hi0 hl hc).mono ?_
  rintro e w1 ⟨R, rfl, hR, rd, B⟩
  have s1 := hide ((B.block w.heap.size (by simp)).trans H0.out)
  have B1 := hide (bnext HB0.out B)
  have hR' : w.heap.size + 1 ≤ R := by simpa using hR
  have HR := hide hR'
  have hlt := hide rd.lt
  clear hR hR' B hi0
  go_wp2_with fail
  refine (someSpace_any R 0 _ rd (by omega)).mono ?_
  rintro e w2 ⟨m, v, ss, rfl, own, hsl, g, rd2⟩
  obtain ⟨av, cv, rfl, D2⟩ := DS.new (m := m) HR.out rd s1.out B1.out own g rd2
  have HSL := hide hsl
  have hm5 := hsl.2
  have hl1 : Ints ((w2.alloc (.cells #[.int .i64 m, .slice av ss.length cv] 25)).alloc (.cells #[.int .i64 3, .int .i64 2, .int .i64 3, .int .i64 1, .int .i64 0, .int .i64 4] 3)) (some ⟨w2.heap.size + 1, 0, none⟩) [3, 2, 3, 1, 0, 4] := by
    have h := litQ (w2.alloc (.cells #[.int .i64 m, .slice av ss.length cv] 25)) [3, 2, 3, 1, 0, 4]
    simp only [World.size_alloc] at h
    exact h
  have D3 := hide (D2.below (bel1 (w2.alloc (.cells #[.int .i64 m, .slice av ss.length cv] 25)) (.cells #[.int .i64 3, .int .i64 2, .int .i64 3, .int .i64 1, .int .i64 0, .int .i64 4] 3)))
  have hR2 : R < w2.heap.size := D2.2.2.2.2.2.2.2
  have HL := hide hl1
  clear s1 B1 rd rd2 g own hsl H0 HB0 D2 hl1
  go_wp2_with fail
  refine (one_any R _ 6 _ _ _ D3.out.rd (by omega) HL.out (by simp) (by simp) (fun b o s e => by cases e; omega)).mono ?_
  rintro e w3 ⟨k, hk, rfl, g3, rd3⟩
  have hk16 : k ≤ 16 := by simp at hk; omega
  have D4 := D3.out.pick g3 rd3
  clear D3 hk g3 rd3 HL
  go_wp2_with fail
  have D5 := hide D4.drew
  have c0 := cell_of_block D5.out.2.1 0
  have c1 := cell_of_block D5.out.2.1 1
  have f0 := unfrozen_of_block D5.out.1 0
  have f1 := unfrozen_of_block D5.out.1 1
  have HRW := hide D5.out.rd.lt
  clear D4
  go_region_with ((go_at_call 75; refine (quotasOf_any R 45 m k _ (D5.out.rd.more (by omega)) (by omega) hm5 hk16).mono ?_; rintro e w5 ⟨v5, qs, rfl, ow5, hql, g5, rd5⟩; have E5 := hide (D5.out.pick g5 rd5); obtain ⟨aq, cq, rfl, iq, hgq⟩ := ow5.form; have IQ := hide iq; have HGQ := hide (fun b o s (e : aq = some ⟨b, o, s⟩) => show R < b by have := (hgq b o s e).1; have := HRW.out; omega); have e0 := cell_of_block E5.out.2.1 0; have e1 := cell_of_block E5.out.2.1 1; have q0 := cell_of_block E5.out.1 0; have q1 := cell_of_block E5.out.1 1; have k0 := unfrozen_of_block E5.out.1 0; have k1 := unfrozen_of_block E5.out.1 1; clear g5 rd5 ow5 iq hgq))
  all_goals
    have hw := hide E5.out.2.2.2.2.2.2.1
    go_wp2_with fail
    refine bodyPost_ret (ret_cross3 rfl _ _ _ _ _ rfl E5.out.set2.1) rfl ?_
    refine ⟨m, av, ss, cv, k, aq, qs, cq, rfl, E5.out.set2.ints, HSL.out.1, (IQ.out.other (gset _ _ 0 _) ?_).other (gset _ _ 1 _) ?_, hql, E5.out.set2.bel⟩
    all_goals
      intro b o s e e'
      have h1 := HGQ.out b o s e
      have h2 : w.heap.size = b := by simpa using e'
      have h3 := hw.out
      omega
set_option maxHeartbeats 4000000 in
set_option maxRecDepth 100000 in
theorem drawIsQuotaSafe_any (a : Option Addr) (cap : Nat) (zs : List Nat) (w : World) (hi : Byts w a zs) (hl : zs.length ≤ 1048576) (hc : zs.length ≤ cap) :
    Calls Try.prog 24 #[.slice a zs.length cap] w (DrawSIQPost w) := by
  have h0 := heap_alloc_new w (.cells #[.int .i64 0, .slice none 0 0] 25)
  have b0 := bel1 w (.cells #[.int .i64 0, .slice none 0 0] 25)
  have hi0 := hi.below b0
  have H0 := hide h0
  have HB0 := hide b0
  clear hi h0 b0
  go_enter Try.func24, Try.ntmps24
  go_wp2_with fail
  refine (newReader_any _ _ _ _ hi0 hl hc).mono ?_
  rintro e w1 ⟨R, rfl, hR, rd, B⟩
  have s1 := hide ((B.block w.heap.size (by simp)).trans H0.out)
  have B1 := hide (bnext HB0.out B)
  have hR' : w.heap.size + 1 ≤ R := by simpa using hR
  have HR := hide hR'
  have hlt := hide rd.lt
  clear hR hR' B hi0
  go_wp2_with fail
  refine (someSpace_any R 0 _ rd (by omega)).mono ?_
  rintro e w2 ⟨m, v, ss, rfl, own, hsl, g, rd2⟩
  obtain ⟨av, cv, rfl, D2⟩ := DS.new (m := m) HR.out rd s1.out B1.out own g rd2
  have HSL := hide hsl
  have hm5 := hsl.2
  have hl1 : Ints ((w2.alloc (.cells #[.int .i64 m, .slice av ss.length cv] 25)).alloc (.cells #[.int .i64 3, .int .i64 2, .int .i64 3, .int .i64 1, .int .i64 5, .int .i64 0, .int .i64 6] 3)) (some ⟨w2.heap.size + 1, 0, none⟩) [3, 2, 3, 1, 5, 0, 6] := by
    have h := litQ (w2.alloc (.cells #[.int .i64 m, .slice av ss.length cv] 25)) [3, 2, 3, 1, 5, 0, 6]
    simp only [World.size_alloc] at h
    exact h
  have D3 := hide (D2.below (bel1 (w2.alloc (.cells #[.int .i64 m, .slice av ss.length cv] 25)) (.cells #[.int .i64 3, .int .i64 2, .int .i64 3, .int .i64 1, .int .i64 5, .int .i64 0, .int .i64 6] 3)))
  have hR2 : R < w2.heap.size := D2.2.2.2.2.2.2.2
  have HL := hide hl1
  clear s1 B1 rd rd2 g own hsl H0 HB0 D2 hl1
  go_wp2_with fail
  refine (one_any R _ 7 _ _ _ D3.out.rd (by omega) HL.out (by simp) (by simp) (fun b o s e => by cases e; omega)).mono ?_
  rintro e w3 ⟨k, hk, rfl, g3, rd3⟩
  have hk16 : k ≤ 16 := by simp at hk; omega
  have D4 := D3.out.pick g3 rd3
  clear D3 hk g3 rd3 HL
  go_wp2_with fail
  have D5 := hide D4.drew
  have c0 := cell_of_block D5.out.2.1 0
  have c1 := cell_of_block D5.out.2.1 1
  have f0 := unfrozen_of_block D5.out.1 0
  have f1 := unfrozen_of_block D5.out.1 1
  have HRW := hide D5.out.rd.lt
  clear D4
  go_region_with ((go_at_call 75; refine (quotasOf_any R 45 m k _ (D5.out.rd.more (by omega)) (by omega) hm5 hk16).mono ?_; rintro e w5 ⟨v5, qs, rfl, ow5, hql, g5, rd5⟩; have E5 := hide (D5.out.pick g5 rd5); obtain ⟨aq, cq, rfl, iq, hgq⟩ := ow5.form; have IQ := hide iq; have HGQ := hide (fun b o s (e : aq = some ⟨b, o, s⟩) => show R < b by have := (hgq b o s e).1; have := HRW.out; omega); have e0 := cell_of_block E5.out.2.1 0; have e1 := cell_of_block E5.out.2.1 1; have q0 := cell_of_block E5.out.1 0; have q1 := cell_of_block E5.out.1 1; have k0 := unfrozen_of_block E5.out.1 0; have k1 := unfrozen_of_block E5.out.1 1; clear g5 rd5 ow5 iq hgq))
  all_goals
    have hw := hide E5.out.2.2.2.2.2.2.1
    go_wp2_with fail
    refine bodyPost_ret (ret_cross3 rfl _ _ _ _ _ rfl E5.out.set2.1) rfl ?_
    refine ⟨m, av, ss, cv, k, aq, qs, cq, rfl, E5.out.set2.ints, HSL.out.1, (IQ.out.other (gset _ _ 0 _) ?_).other (gset _ _ 1 _) ?_, hql, E5.out.set2.bel⟩
    all_goals
      intro b o s e e'
      have h1 := HGQ.out b o s e
      have h2 : w.heap.size = b := by simpa using e'
      have h3 := hw.out
      omega
end Go.Proofs.Ytnmfhnieknckcaa

/- RqM: Rules of quotas are safe exactly if the quotas are: plain mathematics. -/
namespace Go.Proofs.Ytnmfhnieknckcaa
open Go.RowKit Go.Joins

/-- the number of Wins of a quota has the groups that are great enough -/
theorem rqK_bitR (q : Int) : ∀ k i, i < k → bitN (rqK q k) i = if q ≤ szF i then 1 else 0
  | 0, i, h => by omega
  | k + 1, i, h => by
    have hlt := rqK_lt q k
    obtain ⟨b, hb, hb1⟩ : ∃ b, b = (if q ≤ szF k then 1 else 0) ∧ b ≤ 1 := ⟨_, rfl, by split <;> omega⟩
    have e0 : rqK q (k + 1) = rqK q k + 2 ^ k * b := by
      rw [rqK, hb]
      split <;> simp
    rw [e0]
    rcases Nat.lt_or_ge i k with h1 | h1
    · rw [← rqK_bitR q k i h1]
      unfold bitN
      have e : rqK q k + 2 ^ k * b = rqK q k + 2 ^ i * (2 * (2 ^ (k - i - 1) * b)) := by
        have e2 : 2 ^ k = 2 ^ i * (2 * 2 ^ (k - i - 1)) := by
          rw [← Nat.pow_succ', ← Nat.pow_add]
          congr 1
          omega
        rw [e2, Nat.mul_assoc, Nat.mul_assoc]
      rw [e, Nat.add_mul_div_left _ _ (Nat.two_pow_pos i), Nat.add_mul_mod_self_left]
    · obtain rfl : i = k := by omega
      show (rqK q i + 2 ^ i * b) / 2 ^ i % 2 = _
      rw [Nat.add_mul_div_left _ _ (Nat.two_pow_pos i), Nat.div_eq_of_lt hlt, Nat.zero_add, ← hb]
      omega
theorem rqN_bit {v : Nat} (q : Int) {g : Nat} (hg : g < 2 ^ v) : bitN (rqN (v : Int) q) g = if q ≤ szF g then 1 else 0 := by
  have e : (pw (v : Int)).toNat = 2 ^ v := by rw [pwN]; omega
  unfold rqN
  rw [e]
  exact rqK_bitR q _ g hg
theorem wt_comp : ∀ v : Fin 4, ∀ g : Fin 8, g.val < 2 ^ v.val → wt (2 ^ v.val - 1 - g.val) = v.val - wt g.val ∧ wt g.val ≤ v.val := by decide +kernel
/-- how many voters a group needs to win for the answer of a part -/
def thr (v : Nat) (qs : List Int) (m : Nat × Nat) (j : Nat) : Nat := if bitN m.2 j = 0 then v + 1 - (qs.getD j 0).toNat else (qs.getD j 0).toNat
theorem rqL_at (v : Int) (qs : List Int) {j : Nat} (hj : j < qs.length) : ((ci (rqL v qs)).getD j 0).toNat = rqN v (qs.getD j 0) := by
  have hj2 : j < (rqL v qs).length := by unfold rqL; rw [List.length_map]; exact hj
  rw [ci_at hj2, Int.toNat_natCast]
  unfold rqL
  rw [List.getD_eq_getElem?_getD, List.getElem?_map, List.getElem?_eq_getElem hj, getD_lt hj]
  rfl
theorem win_thr {v : Nat} (hv : 1 ≤ v ∧ v ≤ 3) {qs : List Int} {m : Nat × Nat} {j g : Nat} (hj : j < qs.length) (hq : 1 ≤ qs.getD j 0 ∧ qs.getD j 0 ≤ (v : Int)) (hg : g < 2 ^ v) : winB v (ci (rqL (v : Int) qs)) m j g = decide (thr v qs m j ≤ wt g) := by
  have h8 : 2 ^ v ≤ 2 ^ 3 := Nat.pow_le_pow_right (by omega) hv.2
  have hp := Nat.two_pow_pos v
  have hc := wt_comp ⟨v, by omega⟩ ⟨g, by omega⟩ hg
  simp only at hc
  unfold winB thr
  rw [rqL_at _ _ hj]
  by_cases hb : bitN m.2 j = 0
  · rw [if_pos hb, if_pos hb, rqN_bit _ (show 2 ^ v - 1 - g < 2 ^ v by omega)]
    unfold szF
    rw [hc.1, Bool.eq_iff_iff, beq_iff_eq, decide_eq_true_iff]
    split <;> omega
  · rw [if_neg hb, if_neg hb, rqN_bit _ hg]
    unfold szF
    rw [Bool.eq_iff_iff, beq_iff_eq, decide_eq_true_iff]
    split <;> omega
/-- how many voters the groups for the answers from an issue on may lack together -/
def lackS (v : Nat) (qs : List Int) (m : Nat × Nat) : Nat → Nat → Nat
  | 0, _ => 0
  | k + 1, j => (if bitN m.1 j = 0 then 0 else v - thr v qs m j) + lackS v qs m k (j + 1)
theorem cut_chk : ∀ v : Fin 4, ∀ t : Fin 4, ∀ c : Fin 8, ∀ s : Fin 4, 1 ≤ v.val → 1 ≤ t.val → t.val ≤ v.val → c.val < 2 ^ v.val → (((List.range (2 ^ v.val)).all fun x => !decide (t.val ≤ wt x) || decide (s.val < wt (c.val &&& x))) = decide (s.val + (v.val - t.val) < wt c.val)) := by decide +kernel
theorem wt_le3 : ∀ c : Fin 8, wt c.val ≤ 3 := by decide +kernel
theorem wt_full : ∀ v : Fin 4, wt (2 ^ v.val - 1) = v.val := by decide +kernel
theorem cut_iff {v t c s : Nat} (hv : 1 ≤ v ∧ v ≤ 3) (ht : 1 ≤ t ∧ t ≤ v) (hc : c < 2 ^ v) : ((List.range (2 ^ v)).all fun x => !decide (t ≤ wt x) || decide (s < wt (c &&& x))) = decide (s + (v - t) < wt c) := by
  have h8 : 2 ^ v ≤ 2 ^ 3 := Nat.pow_le_pow_right (by omega) hv.2
  by_cases hs : s < 4
  · exact cut_chk ⟨v, by omega⟩ ⟨t, by omega⟩ ⟨c, by omega⟩ ⟨s, hs⟩ hv.1 ht.1 ht.2 hc
  · have hw := wt_le3 ⟨c, by omega⟩
    simp only at hw
    rw [decide_eq_false (by omega), List.all_eq_false]
    have hp := Nat.two_pow_pos v
    refine ⟨2 ^ v - 1, List.mem_range.2 (by omega), ?_⟩
    have hf := wt_full ⟨v, by omega⟩
    simp only at hf
    have e : c &&& (2 ^ v - 1) = c := by rw [Nat.and_two_pow_sub_one_eq_mod, Nat.mod_eq_of_lt hc]
    rw [hf, e, decide_eq_true ht.2, decide_eq_false (by omega)]
    decide
theorem mt_lack {v : Nat} (hv : 1 ≤ v ∧ v ≤ 3) {qs : List Int} (hq : ∀ j, j < qs.length → 1 ≤ qs.getD j 0 ∧ qs.getD j 0 ≤ (v : Int)) {m : Nat × Nat} : ∀ (k j c : Nat), j + k ≤ qs.length → c < 2 ^ v → mtK v (ci (rqL (v : Int) qs)) m k j c = decide (lackS v qs m k j < wt c)
  | 0, j, c, _, hc => by
    have h8 : 2 ^ v ≤ 2 ^ 3 := Nat.pow_le_pow_right (by omega) hv.2
    rw [mtK, lackS, Bool.eq_iff_iff, decide_eq_true_iff, decide_eq_true_iff]
    have hw : ∀ c : Fin 8, (0 < c.val ↔ 0 < wt c.val) := by decide +kernel
    exact hw ⟨c, by omega⟩
  | k + 1, j, c, hk, hc => by
    by_cases hb : bitN m.1 j = 0
    · rw [mtK_skip hb, mt_lack hv hq k (j + 1) c (by omega) hc, lackS, if_pos hb, Nat.zero_add]
    · have hb1 : bitN m.1 j = 1 := by have := bitN_le m.1 j; omega
      have hqj := hq j (by omega)
      have ht : 1 ≤ thr v qs m j ∧ thr v qs m j ≤ v := by
        unfold thr
        split <;> omega
      rw [lackS, if_neg hb, Nat.add_comm (v - thr v qs m j), ← cut_iff hv ht hc, Bool.eq_iff_iff, List.all_eq_true]
      constructor
      · intro h x hx
        rw [List.mem_range] at hx
        cases hw : decide (thr v qs m j ≤ wt x) with
        | false => rfl
        | true =>
          rw [Bool.not_true, Bool.false_or]
          rw [← mt_lack hv hq k (j + 1) (c &&& x) (by omega) (Nat.lt_of_le_of_lt Nat.and_le_left hc)]
          cases hm : mtK v (ci (rqL (v : Int) qs)) m k (j + 1) (c &&& x) with
          | true => rfl
          | false =>
            rw [mtK_no hb1 hx (by rw [win_thr hv (by omega) hqj hx]; exact hw) hm] at h
            cases h
      · intro h
        refine mtK_yes hb1 fun x hx => ?_
        have h1 := h x (List.mem_range.2 hx)
        rw [win_thr hv (by omega) hqj hx, mt_lack hv hq k (j + 1) (c &&& x) (by omega) (Nat.lt_of_le_of_lt Nat.and_le_left hc)]
        exact h1
/-- the same sum from the first issue on -/
def lackT (v : Nat) (qs : List Int) (m : Nat × Nat) : Nat → Nat
  | 0 => 0
  | k + 1 => lackT v qs m k + (if bitN m.1 k = 0 then 0 else v - thr v qs m k)
theorem lack_split (v : Nat) (qs : List Int) (m : Nat × Nat) : ∀ k j, lackT v qs m j + lackS v qs m k j = lackT v qs m (j + k)
  | 0, j => by simp [lackS]
  | k + 1, j => by
    have h := lack_split v qs m k (j + 1)
    rw [show j + 1 + k = j + (k + 1) from by omega] at h
    rw [← h, lackS, lackT]
    omega
def cntB (c : Nat) : Nat → Nat
  | 0 => 0
  | k + 1 => cntB c k + bitN c k
theorem cnt_wt : ∀ N : Fin 5, ∀ c : Fin 16, c.val < 2 ^ N.val → cntB c.val N.val = wt c.val := by decide +kernel
theorem lack_sum {v : Nat} {qs : List Int} (hq : ∀ j, j < qs.length → 1 ≤ qs.getD j 0 ∧ qs.getD j 0 ≤ (v : Int)) {m : Nat × Nat} (hm : m.2 &&& m.1 = m.2) : ∀ k, k ≤ qs.length → (lackT v qs m k : Int) = (v : Int) * (cntB m.1 k : Int) - qsK (v : Int) qs m k
  | 0, _ => by simp [lackT, cntB, qsK]
  | k + 1, hk => by
    have ih := lack_sum hq hm k (by omega)
    have hqk := hq k (by omega)
    have l1 := bitN_le m.1 k
    have l2 := bitN_le m.2 k
    have hsub : bitN m.1 k = 0 → bitN m.2 k = 0 := fun h => by
      rw [← hm, bitN_and, h, Nat.mul_zero]
    rcases (show bitN m.1 k = 0 ∨ bitN m.1 k = 1 from by omega) with e1 | e1
    · have e2 := hsub e1
      rw [qsK_none e2 e1, lackT, if_pos e1, cntB, e1]
      simpa using ih
    · rcases (show bitN m.2 k = 0 ∨ bitN m.2 k = 1 from by omega) with e2 | e2
      · rw [qsK_care e2 e1, lackT, if_neg (by omega), cntB, e1]
        unfold thr
        rw [if_pos e2, Int.natCast_add, ih, Int.natCast_add, Int.mul_add]
        simp only [Int.natCast_one, Int.mul_one]
        omega
      · rw [qsK_bit e2, lackT, if_neg (by omega), cntB, e1]
        unfold thr
        rw [if_neg (by omega), Int.natCast_add, ih, Int.natCast_add, Int.mul_add]
        simp only [Int.natCast_one, Int.mul_one]
        omega
theorem rq_mono_chk : ∀ v : Fin 4, ∀ q : Fin 4, 1 ≤ v.val → 1 ≤ q.val → q.val ≤ v.val → (holdMono (v.val : Int) (rqN (v.val : Int) (q.val : Int) : Nat) && holdUnan (v.val : Int) (rqN (v.val : Int) (q.val : Int) : Nat)) = true := by decide +kernel
/-- the rule of quotas is a rule, monotone and unanimous -/
theorem rq_facts {n v : Int} {zs qs : List Int} (h : RqOk n zs v qs) : vrB n zs v (ci (rqL v qs)) = true ∧ monoR n zs v (ci (rqL v qs)) = true ∧ unanR n zs v (ci (rqL v qs)) = true := by
  obtain ⟨hq, hl⟩ := quotas_in h.2.2
  have hlen : (ci (rqL v qs)).length = qs.length := by rw [ci_len]; unfold rqL; rw [List.length_map]
  have hmem : ∀ x ∈ ci (rqL v qs), ∃ q, 1 ≤ q ∧ q ≤ v ∧ x = ((rqN v q : Nat) : Int) := fun x hx => by
    obtain ⟨y, hy, rfl⟩ := List.mem_map.1 hx
    obtain ⟨q, hq2, rfl⟩ := List.mem_map.1 hy
    obtain ⟨i, hi, rfl⟩ := List.getElem_of_mem hq2
    have := hq i hi
    rw [getD_lt hi] at this
    exact ⟨_, this.1, this.2, rfl⟩
  have hV : vrB n zs v (ci (rqL v qs)) = true := vr_mk (valid_of h.1) ⟨h.2.1, by rw [hlen]; exact hl, fun j hj => by
    obtain ⟨q, _, _, e⟩ := hmem _ (List.getElem_mem hj)
    rw [getD_lt hj, e]
    refine okWin_true ?_
    have h1 := (rqN_lt (q := q) h.2.1).1
    have e2 : pw (pw v) = ((2 ^ (pw v).toNat : Nat) : Int) := rfl
    rw [e2]
    omega⟩
  have hf : ∀ x ∈ ci (rqL v qs), holdMono v x = true ∧ holdUnan v x = true := fun x hx => by
    obtain ⟨q, hq1, hq2, e⟩ := hmem x hx
    obtain ⟨vN, rfl⟩ : ∃ vN : Nat, v = (vN : Int) := ⟨v.toNat, by have := h.2.1; omega⟩
    obtain ⟨qN, rfl⟩ : ∃ qN : Nat, q = (qN : Int) := ⟨q.toNat, by omega⟩
    have hv := h.2.1
    have := rq_mono_chk ⟨vN, by omega⟩ ⟨qN, by omega⟩ (by simp only; omega) (by simp only; omega) (by simp only; omega)
    simp only [Bool.and_eq_true] at this
    rw [e]
    exact this
  exact ⟨hV, by rw [monoR_yes hV]; exact not_any_of fun x hx => (hf x hx).1, by rw [unanR_yes hV]; exact not_any_of fun x hx => (hf x hx).2⟩
/-- the quotas are safe exactly if the rule is -/
theorem quota_safe {n v : Int} {zs qs : List Int} (h : RqOk n zs v qs) : safeR n zs v (ci (rqL v qs)) = qsB n zs v qs := by
  obtain ⟨hV, hmono, _⟩ := rq_facts h
  obtain ⟨hq, hl⟩ := quotas_in h.2.2
  have hv := h.2.1
  have hn4 := (valid_of h.1).1
  rw [safe_meet hV hmono, meetR_yes hV, qsB_yes ⟨h.1, by omega, h.2.2⟩]
  obtain rfl : n = (qs.length : Int) := by omega
  obtain ⟨vN, rfl⟩ : ∃ vN : Nat, v = (vN : Int) := ⟨v.toNat, by omega⟩
  have hlen : (ci (rqL (vN : Int) qs)).length = qs.length := by rw [ci_len]; unfold rqL; rw [List.length_map]
  rw [Int.toNat_natCast, Bool.eq_iff_iff, Bool.not_eq_true', List.any_eq_false, List.all_eq_true]
  have key : ∀ m ∈ critL qs.length zs, noneB (vN : Int) (ci (rqL (vN : Int) qs)) m = qfew (vN : Int) qs qs.length m := fun m hm => by
    have hf := ord_facts (by omega) (crit_mem.1 hm).1
    have h16 : m.1 < 16 := by
      have : 2 ^ qs.length ≤ 2 ^ 4 := Nat.pow_le_pow_right (by omega) (by omega)
      omega
    have hp := Nat.two_pow_pos vN
    have h1 := mt_none (v := vN) (by omega) (ws := ci (rqL (vN : Int) qs)) (m := m)
    rw [hlen, mt_lack (by omega) hq qs.length 0 (2 ^ vN - 1) (by omega) (by omega)] at h1
    have h2 := lack_split vN qs m qs.length 0
    rw [Nat.zero_add] at h2
    have h3 := lack_sum hq hf.2.1 qs.length (Nat.le_refl _)
    have h4 := cnt_wt ⟨qs.length, by omega⟩ ⟨m.1, h16⟩ hf.1
    simp only at h4
    have h5 := wt_full ⟨vN, by omega⟩
    simp only at h5
    have e : lackT vN qs m 0 = 0 := rfl
    rw [e, Nat.zero_add] at h2
    rw [h2, h5] at h1
    rw [h4] at h3
    have hmul : (vN : Int) * ((wt m.1 : Nat) - 1 : Int) = (vN : Int) * (wt m.1 : Nat) - vN := by rw [Int.mul_sub, Int.mul_one]
    unfold qfew
    rw [hmul]
    cases hb : noneB (vN : Int) (ci (rqL (vN : Int) qs)) m with
    | false =>
      rw [hb] at h1
      simp only [Bool.not_false, decide_eq_true_eq] at h1
      symm
      rw [decide_eq_false_iff_not]
      omega
    | true =>
      rw [hb] at h1
      simp only [Bool.not_true, decide_eq_false_iff_not] at h1
      symm
      rw [decide_eq_true_iff]
      omega
  constructor
  · intro hall m hm
    rw [← key m hm]
    simpa using hall m hm
  · intro hall m hm
    rw [key m hm]
    have := hall m hm
    simpa using this
end Go.Proofs.Ytnmfhnieknckcaa

/- PQsafe: The law of IsQuotaSafe answers true at every code: its walk. -/
namespace Go.Proofs.Ytnmfhnieknckcaa
open Go.RowKit Go.Joins

theorem implQs_was (n : Int) (a : Option Addr) (cap : Nat) (zs : List Int) (k : Int) (l : Option Addr) (qs : List Int) (capl : Nat) (r : Bool) (w : World) (hi : Ints w a zs) (hj : Ints w l qs) (hn : zs.length ≤ 1048576) (hm : qs.length ≤ 1048576) (h : qsB n zs k qs = r) :
    Calls Try.prog 25 #[.agg #[.int .i64 n, .slice a zs.length cap], .int .i64 k, .slice l qs.length capl] w fun e w' => e = .returned (.bool r) ∧ Below w.heap.size w w' := by
  subst h
  exact implIsQuotaSafe_any n a cap zs k l qs capl w hi hj hn hm
theorem specQs_was (n : Int) (a : Option Addr) (cap : Nat) (zs : List Int) (k : Int) (l : Option Addr) (qs : List Int) (capl : Nat) (r : Bool) (w : World) (hi : Ints w a zs) (hj : Ints w l qs) (hn : zs.length ≤ 1048576) (hm : qs.length ≤ 1048576) (h : qsB n zs k qs = r) :
    Calls Try.prog 26 #[.agg #[.int .i64 n, .slice a zs.length cap], .int .i64 k, .slice l qs.length capl] w fun e w' => e = .returned (.bool r) ∧ Below w.heap.size w w' := by
  subst h
  exact specIsQuotaSafe_any n a cap zs k l qs capl w hi hj hn hm
theorem implSafeQ_was (n v : Int) (a b : Option Addr) (cap capb : Nat) (zs ws : List Int) (w : World) (r : Bool) (hi : Ints w a zs) (hj : Ints w b ws) (hn : zs.length ≤ 1048576) (hm : ws.length ≤ 1048576) (hr : safeR n zs v ws = r) :
    Calls Try.prog 11 #[.agg #[.int .i64 n, .slice a zs.length cap], .agg #[.int .i64 v, .slice b ws.length capb]] w fun e w' => e = .returned (.bool r) ∧ Below w.heap.size w w' := by
  subst hr
  exact implIsSafe_any n v a b cap capb zs ws w hi hj hn hm
set_option maxHeartbeats 8000000 in
set_option maxRecDepth 100000 in
theorem walk_FnIsQuotaSafe (a : Option Addr) (zs : List Nat) (cap : Nat) (w : World) (hi : Byts w a zs) (hl : zs.length ≤ maxLen) (hc : zs.length ≤ cap) :
    Calls Try.prog 6 #[.slice a zs.length cap] w fun e w' => e = .returned (.bool true) ∧ Below w.heap.size w w' := by
  by_cases h : 1048576 < zs.length
  · unfold maxLen at hl
    go_enter Try.func6, Try.ntmps6
    go_wp2
    go_ret
    exact ⟨rfl, Below.refl _ _⟩
  · have hl' : zs.length ≤ 1048576 := by omega
    clear h hl
    go_enter Try.func6, Try.ntmps6
    go_wp2_with fail
    refine (drawIsQuotaSafe_any _ _ _ _ hi hl' hc).mono ?_
    rintro e w1 ⟨m, av, ss, cv, k, q, qs, cq, rfl, iv, hsl, iq, hql, hb⟩
    have S0 := SV.new w1 m av ss cv q qs 25 iv iq
    have HB := hide hb
    have hn : ss.length ≤ 1048576 := by omega
    have hm : qs.length ≤ 1048576 := by omega
    clear hb hi iv iq hl' hsl hql
    obtain ⟨⟨_, c0, c1⟩, _⟩ := S0.pair
    obtain ⟨nb, hnb⟩ : ∃ r, qsB m ss k qs = r := ⟨_, rfl⟩
    have HNB := hide hnb
    clear hnb
    go_wp2_with fail
    refine (implQs_was _ _ _ _ _ _ _ _ _ _ S0.2.1 S0.2.2.1 hn hm HNB.out).mono ?_
    rintro e w2 ⟨rfl, b2⟩
    have S2 := S0.below b2
    clear c0 c1 S0 b2
    obtain ⟨⟨_, c0, c1⟩, _⟩ := S2.pair
    go_wp2_with fail
    refine (specQs_was _ _ _ _ _ _ _ _ _ _ S2.2.1 S2.2.2.1 hn hm HNB.out).mono ?_
    rintro e w3 ⟨rfl, b3⟩
    have S3 := S2.below b3
    clear c0 c1 S2 b3
    obtain ⟨⟨_, c0, c1⟩, _⟩ := S3.pair
    have hne : (nb != nb) = false := by simp
    by_cases hv : vsB m ss = false
    · have HV := hide hv
      clear hv
      go_wp2_with fail
      refine (implVSq_was _ _ _ _ false _ S3.2.1 hn HV.out).mono ?_
      rintro e w4 ⟨rfl, b4⟩
      have S4 := S3.below b4
      clear c0 c1 S3 b4
      obtain ⟨⟨_, c0, c1⟩, _⟩ := S4.pair
      go_wp2_with fail
      refine (specQs_was _ _ _ _ _ _ _ _ _ _ S4.2.1 S4.2.2.1 hn hm HNB.out).mono ?_
      rintro e w5 ⟨rfl, b5⟩
      go_wp2
      go_ret
      exact ⟨ret_bool (by simp), bnext HB.out (S4.below b5).2.2.2⟩
    · have hv : vsB m ss = true := by simpa using hv
      have HV := hide hv
      clear hv
      go_wp2_with fail
      refine (implVSq_was _ _ _ _ true _ S3.2.1 hn HV.out).mono ?_
      rintro e w4 ⟨rfl, b4⟩
      have S4 := S3.below b4
      clear c0 c1 S3 b4
      obtain ⟨⟨_, c0, c1⟩, _⟩ := S4.pair
      by_cases hok : RqOk m ss k qs
      · have HSF := hide (show safeR m ss k (ci (rqL k qs)) = nb from by rw [quota_safe hok]; exact HNB.out)
        have HN := hide (show rqV m ss k qs = k from by unfold rqV; rw [if_pos hok])
        have HW := hide (show rqW m ss k qs = ci (rqL k qs) from by unfold rqW; rw [if_pos hok])
        have HO := hide (show rqO m ss k qs = true from by unfold rqO; exact decide_eq_true hok)
        have HLN := hide (show (ci (rqL k qs)).length ≤ 1048576 from by rw [ci_len]; unfold rqL; rw [List.length_map]; exact hm)
        obtain ⟨L, hL⟩ : ∃ L, L = ci (rqL k qs) := ⟨_, rfl⟩
        rw [← hL] at HSF HW HLN
        clear hok hL
        go_wp2_with fail
        refine (implRuleOfQuotas_any _ _ _ _ _ _ _ _ _ S4.2.1 S4.2.2.1 hn hm).mono ?_
        rw [HN.out, HW.out, HO.out]
        rintro e w5 ⟨vr, rfl, ho, b5⟩
        obtain ⟨ra, rc, rfl, ir, _⟩ := ho.form
        have S5 := S4.below (bnext b5 (bel1 w5 (.cells #[.int .i64 k, .slice ra L.length rc] 27)))
        have ir5 := ir.below (bel1 w5 (.cells #[.int .i64 k, .slice ra L.length rc] 27))
        have bx := Box.new w5 k ra L.length rc 27
        clear c0 c1 S4 b5 ho ir
        obtain ⟨⟨_, c0, c1⟩, _⟩ := S5.pair
        obtain ⟨_, d0, d1⟩ := bx.pair
        go_wp2_with fail
        refine (implSafeQ_was _ _ _ _ _ _ _ _ _ _ S5.2.1 ir5 hn HLN.out HSF.out).mono ?_
        rintro e w6 ⟨rfl, b6⟩
        go_wp2
        go_ret
        exact ⟨ret_bool (by simp), bnext HB.out (S5.below b6).2.2.2⟩
      · have HN := hide (show rqV m ss k qs = 0 from by unfold rqV; rw [if_neg hok])
        have HW := hide (show rqW m ss k qs = [] from by unfold rqW; rw [if_neg hok])
        have HO := hide (show rqO m ss k qs = false from by unfold rqO; exact decide_eq_false hok)
        clear hok
        go_wp2_with fail
        refine (implRuleOfQuotas_any _ _ _ _ _ _ _ _ _ S4.2.1 S4.2.2.1 hn hm).mono ?_
        rw [HN.out, HW.out, HO.out]
        rintro e w5 ⟨vr, rfl, ho, b5⟩
        obtain ⟨ra, rc, rfl, ir, _⟩ := ho.form
        have S5 := S4.below (bnext b5 (bel1 w5 (.cells #[.int .i64 0, .slice ra ([] : List Int).length rc] 27)))
        clear c0 c1 S4 b5 ho ir
        go_wp2
        go_ret
        exact ⟨rfl, bnext HB.out S5.2.2.2⟩
end Go.Proofs.Ytnmfhnieknckcaa
