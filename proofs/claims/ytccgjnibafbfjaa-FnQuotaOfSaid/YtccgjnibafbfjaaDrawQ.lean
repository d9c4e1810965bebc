/- The draw of quotas. -/
import Derived.Test.YtccgjnibafbfjaaDrawT
import Derived.Test.YtccgjnibafbfjaaDrawP
namespace Go.Proofs.Ytccgjnibafbfjaa
open Go.RowKit Go.Joins

/-- a list under way: the list, the reader -/
def UI (R : Nat) (w : World) (n : Nat) (v : Value) (ls : List Int) (wq : World) : Prop :=
  Owns wq w.heap.size v ls ∧ w.grownBy wq (some R) ∧ RD wq R n ∧ w.heap.size ≤ wq.heap.size ∧ R < w.heap.size
theorem UI.rd {R : Nat} {w : World} {n : Nat} {v : Value} {ls : List Int} {wq : World} (h : UI R w n v ls wq) : RD wq R n := h.2.2.1
theorem UI.new {R : Nat} {w : World} {n : Nat} (h : RD w R n) :
    UI R w n (.slice (some ⟨w.heap.size, 0, none⟩) 0 0) [] (w.alloc (.cells #[] 3)) :=
  ⟨Owns.empty w (Nat.le_refl _), gbelow (grefl0 w R) (bel1 w _), h.below (bel1 w _), by simp, h.lt⟩
theorem UI.below {R : Nat} {w : World} {n : Nat} {v : Value} {ls : List Int} {wq w' : World} (h : UI R w n v ls wq) (hb : Below wq.heap.size wq w') : UI R w n v ls w' := by
  obtain ⟨h2, h3, h4, h5, h6⟩ := h
  exact ⟨h2.below hb, gbelow h3 (hb.mono (by omega)), h4.below hb, Nat.le_trans h5 hb.size, h6⟩
theorem UI.drew {R : Nat} {w : World} {n : Nat} {v : Value} {ls : List Int} {wq : World} (h : UI R w n v ls wq) : UI R w n v ls wq.drew := h.below (bdrew' (Below.refl _ _))
theorem UI.pick {R : Nat} {w : World} {n k : Nat} {v : Value} {ls : List Int} {wq w' : World} (h : UI R w n v ls wq) (hg : wq.grownBy w' (some R)) (hr : RD w' R k) : UI R w k v ls w' := by
  obtain ⟨h2, h3, _, h5, h6⟩ := h
  exact ⟨h2.other hg (fun g e => by cases e; omega), gpick h3 hg, hr, Nat.le_trans h5 hg.size, h6⟩
theorem UI.more {R : Nat} {w : World} {n k : Nat} {v : Value} {ls : List Int} {wq : World} (h : UI R w n v ls wq) (hk : n ≤ k) : UI R w k v ls wq :=
  ⟨h.1, h.2.1, h.2.2.1.more hk, h.2.2.2⟩
theorem UI.push {R : Nat} {w : World} {z : Int} {n : Nat} {v v' : Value} {ls : List Int} {wq w5 : World} {o : Obj} (h : UI R w n v ls wq) (hg : (wq.alloc o).grownBy w5 v.ownBlock)
    (ho : w5.ownsRow w.heap.size 3 1 v' (ls.length + 1) (ls.map (Value.int .i64) ++ [.int .i64 z])) : UI R w n v' (ls ++ [z]) w5 := by
  obtain ⟨h2, h3, h4, h5, h6⟩ := h.below (bel1 wq o)
  exact ⟨Owns.push ho, gbelow h3 ((Below.refl _ _).grown hg (by omega) (fun k hk => by have := own_ge h2 k hk; omega)), h4.grown hg (fun g e => by have := own_ge h2 g e; omega), Nat.le_trans h5 hg.size, h6⟩
/-- a write into the list -/
theorem UI.row {R : Nat} {w : World} {n : Nat} {v v' : Value} {ls ls' : List Int} {wq w5 : World} {k : Nat} (h : UI R w n v ls wq) (hk : v.ownBlock = some k) (hg : wq.grownBy w5 (some k)) (ho : Owns w5 w.heap.size v' ls') : UI R w n v' ls' w5 := by
  obtain ⟨h2, h3, h4, h5, h6⟩ := h
  have hge := own_ge h2 k hk
  exact ⟨ho, gbelow h3 ((Below.refl _ _).grown hg (by omega) (fun j hj => by cases hj; omega)), h4.grown hg (fun g e => by cases e; omega), Nat.le_trans h5 hg.size, h6⟩
theorem UI.done {R : Nat} {w : World} {n k : Nat} {v : Value} {ls : List Int} {wq : World} (h : UI R w n v ls wq) (hl : ls.length ≤ 10) (hk : n ≤ k) : VotesPost R k w (.returned v) wq :=
  ⟨v, ls, rfl, h.1, hl, h.2.1, h.2.2.1.more hk⟩
theorem litq (w : World) (a b : Int) : Ints (w.alloc (.cells #[.int .i64 a, .int .i64 b] 3)) (some ⟨w.heap.size, 0, none⟩) [a, b] := fun _ =>
  ⟨w.heap.size, 0, rfl, by simp, fun k hk => by
    match k, hk with
    | 0, _ => simp [go_sem]
    | 1, _ => simp [go_sem]⟩
set_option maxHeartbeats 8000000 in
set_option maxRecDepth 100000 in
theorem quotasOf_any (R n : Nat) (m k : Int) (w : World) (hr : RD w R n) (hn : n < 1073730000) (hm : m ≤ 5) (hk : k ≤ 16) :
    Calls Try.prog 63 #[.pointer (some ⟨R, 0, none⟩), .int .i64 m, .int .i64 k] w (VotesPost R (n + 8) w) := by
  obtain ⟨i0, hi0, hz0, hz1, hz2⟩ := info_parts info_int
  have V0 := UI.new hr
  have hRw := hr.lt
  clear hr
  go_enter Try.func63, Try.ntmps63
  go_wp2_with fail
  go_loopw [7] (fun v wq => ∃ ls : List Int, ls.length ≤ 5 ∧ UI R w (n + ls.length) v ls wq) (fun v _ => lackOf 5 v)
  case atStart => exact ⟨[], by simp, V0⟩
  case round =>
    clear V0
    obtain ⟨ls, hl5, hs⟩ := hrel
    obtain ⟨va, vc, rfl, _, _⟩ := hs.1.form
    by_cases hlt : (ls.length : Int) < m
    · by_cases hk1 : k < 1
      all_goals
          have HS := hide hs
          clear hs
          go_wp2_with fail
          refine (pick_any R (n + ls.length) _ _ HS.out.rd (by omega) ⟨by omega, by omega⟩).mono ?_
          rintro e w3 ⟨y, rfl, hy0, hyl, _, g, rd⟩
          have V3 := HS.out.pick g rd
          have hown := V3.1
          have hw3 := V3.2.2.2.1
          have hy16 : y < 16 := by have := hyl (by omega); omega
          have HV := hide V3
          clear HS g rd V3 hyl
          go_wp2_with ((at_builtin; refine wpList_append_own _ rfl _ _ 23 rfl w.heap.size 3 i0 (.int .i64 0) 1 8 Try.underlying23 hi0 hz0 hz1 hz2 rfl (by decide) _ _ _ rfl (hown.alloc _) ⟨w3.heap.size, 0, none⟩ 1 1 [.int .i64 (1 + y)] rfl rfl (cell_one_new w3 _ _) (by intro u hu; simp at hu; subst hu; rfl) (by unfold maxLen; omega) (by omega) (by first | omega | (simp; omega)) ?_))
          intro v' w5 hown' hgrow _
          have V5 := HV.out.push hgrow hown'
          obtain ⟨zz, hzz⟩ : ∃ zz : List Int, zz = ls ++ [1 + y] := ⟨_, rfl⟩
          rw [← hzz] at V5
          have hzl : zz.length = ls.length + 1 := by rw [hzz, List.length_append]; rfl
          obtain ⟨qa, qc, rfl, _⟩ := V5.1.form
          have HZ := hide hzl
          have HQ := hide V5
          clear hown hown' hgrow V5 hzz hzl hw3
          go_wp2
          go_roundw
          case rel => exact ⟨zz, by have := HZ.out; omega, by have := HQ.out.more (k := n + zz.length) (by have := HZ.out; omega); exact this⟩
          case measure => simp only [lackOf]; have := HZ.out; omega
    · by_cases hpos : 0 < ls.length
      · have HV := hide hs
        clear hs
        go_wp2_with fail
        refine (pick_any R (n + ls.length) _ _ HV.out.rd (by omega) ⟨by omega, by omega⟩).mono ?_
        rintro e w3 ⟨r, rfl, _, _, _, g, rd⟩
        have V3 := HV.out.pick g rd
        clear g rd HV
        by_cases e0 : (r == 0) = true
        · have hl3 := litq w3 0 6
          have V4 := hide (V3.below (bel1 w3 (.cells #[.int .i64 0, .int .i64 6] 3)))
          have hw3 := V3.2.2.2.1
          clear V3
          go_wp2_with fail
          have ho := one_any R (n + ls.length + 1) 2 _ _ _ V4.out.rd (by omega) hl3 (by simp) (by simp) (fun b o s e => by cases e; omega)
          refine ho.mono ?_
          rintro e w5 ⟨x, _, rfl, g, rd⟩
          have V5 := hide (V4.out.pick g rd)
          have h5 := V5.out.1
          have h5' : w5.ownsRow w.heap.size 3 1 (.slice va ls.length vc) ls.length (ls.map (Value.int .i64)) := h5
          rcases ownsRow_forms h5' with ⟨_, h0⟩ | ⟨gb, cap', hv⟩
          · omega
          · simp only [Value.slice.injEq] at hv
            obtain ⟨rfl, hv2, hv3⟩ := hv
            clear hv2 hv3
            have hst := h5'.cellAt 0 (by omega)
            rw [List.getElem?_map, List.getElem?_eq_getElem hpos] at hst
            have hfz := h5'.frozenAt 0
            have HST := hide (h5'.stored 0 (.int .i64 x))
            clear ho g rd h5 h5' hl3
            go_wp2
            go_ret
            have H1 := HST.out.1
            rw [show (ls.map (Value.int .i64)).set 0 (.int .i64 x) = (ls.set 0 x).map (Value.int .i64) from by rw [List.map_set]] at H1
            have ho' : Owns (w5.setCell ⟨gb, 0, none⟩ (.int .i64 x)) w.heap.size (.slice (some ⟨gb, 0, none⟩) ls.length vc) (ls.set 0 x) := by
              unfold Owns
              rw [List.length_set]
              exact H1
            have V6 := V5.out.row (k := gb) rfl (gset _ gb 0 _) ho'
            refine UI.done (n := n + ls.length + 1 + 1) (k := n + 8) V6 ?_ ?_
            · rw [List.length_set]; omega
            · omega
        · have e0 : (r == 0) = false := by simpa using e0
          have HV3 := hide V3
          clear V3
          go_wp2
          go_ret
          exact HV3.out.done (by omega) (by omega)
      · have HV := hide hs
        clear hs
        go_wp2
        go_ret
        exact HV.out.done (k := n + 8) (by omega) (by omega)
/-- What a draw of a space, votes and quotas leaves. -/
def DrawSVQPost (w : World) (e : Ending) (w' : World) : Prop :=
  ∃ (m : Int) (a : Option Addr) (zs : List Int) (cap : Nat) (l : Option Addr) (ls : List Int) (capl : Nat) (q : Option Addr) (qs : List Int) (capq : Nat), e = .returned (.tuple #[.agg #[.int .i64 m, .slice a zs.length cap], .slice l ls.length capl, .slice q qs.length capq]) ∧ Ints w' a zs ∧ zs.length ≤ 65 ∧ Ints w' l ls ∧ ls.length ≤ 10 ∧ Ints w' q qs ∧ qs.length ≤ 10 ∧ Below w.heap.size w w'
set_option maxHeartbeats 4000000 in
set_option maxRecDepth 100000 in
theorem drawQuotaOf_any (a : Option Addr) (cap : Nat) (zs : List Nat) (w : World) (hi : Byts w a zs) (hl : zs.length ≤ 1048576) (hc : zs.length ≤ cap) :
    Calls Try.prog 15 #[.slice a zs.length cap] w (DrawSVQPost w) := by
  have h0 := heap_alloc_new w (.cells #[.int .i64 0, .slice none 0 0] 25)
  have b0 := bel1 w (.cells #[.int .i64 0, .slice none 0 0] 25)
  have hi0 := hi.below b0
  have H0 := hide h0
  have HB0 := hide b0
  clear hi h0 b0
  go_enter Try.func15, Try.ntmps15
  go_wp2_with fail
  refine (newReader_any _ _ _ _ hi0 hl hc).mono ?_
  rintro e w1 ⟨R, rfl, hR, rd, B⟩
  have s1 := hide ((B.block w.heap.size (by simp)).trans H0.out)
  have B1 := hide (bnext HB0.out B)
  have hR' : w.heap.size + 1 ≤ R := by simpa using hR
  have HR := hide hR'
  have hlt := hide rd.lt
  clear hR hR' B hi0
  go_wp2_with fail
  refine (someVotes_any R 0 _ rd (by omega)).mono ?_
  rintro e w2 ⟨m, v, ss, u, ls, rfl, own, hsl, owu, hll, g, rd2⟩
  obtain ⟨av, cv, rfl, D2⟩ := DS.new (m := m) HR.out rd s1.out B1.out own g rd2
  obtain ⟨au, cu, rfl, iu, hgu⟩ := owu.form
  have I2 := iu.below (bel1 w2 (.cells #[.int .i64 m, .slice av ss.length cv] 25))
  have HG := hide (fun b o s (e : au = some ⟨b, o, s⟩) => show R < b by have := (hgu b o s e).1; have := hlt.out; omega)
  have HSL := hide hsl
  have hm5 := hsl.2
  clear s1 B1 rd rd2 g own owu hsl H0 HB0 iu hgu
  go_wp2_with fail
  generalize w2.alloc (.cells #[.int .i64 m, .slice av ss.length cv] 25) = W at D2 I2 ⊢
  have D3 := hide D2.drew
  have I3 := hide (I2.below (bdrew' (Below.refl W.heap.size W)))
  have c0 := cell_of_block D3.out.2.1 0
  have c1 := cell_of_block D3.out.2.1 1
  have f0 := unfrozen_of_block D3.out.1 0
  have f1 := unfrozen_of_block D3.out.1 1
  have HRW := hide D3.out.rd.lt
  clear D2 I2
  go_region_with ((go_at_call 63; refine (quotasOf_any R 52 m _ _ (D3.out.rd.more (by omega)) (by omega) hm5 (by omega)).mono ?_; rintro e w5 ⟨v5, qs, rfl, ow5, hql, g5, rd5⟩; have E5 := hide (D3.out.pick g5 rd5); have I5 := hide (I3.out.other g5 (fun b o s e e' => by have h1 := HG.out b o s e; have h2 : R = b := by { simpa using e' }; omega)); obtain ⟨aq, cq, rfl, iq, hgq⟩ := ow5.form; have IQ := hide iq; have HGQ := hide (fun b o s (e : aq = some ⟨b, o, s⟩) => show R < b by have := (hgq b o s e).1; have := HRW.out; omega); have e0 := cell_of_block E5.out.2.1 0; have e1 := cell_of_block E5.out.2.1 1; have q0 := cell_of_block E5.out.1 0; have q1 := cell_of_block E5.out.1 1; have k0 := unfrozen_of_block E5.out.1 0; have k1 := unfrozen_of_block E5.out.1 1; clear g5 rd5 ow5 iq hgq))
  all_goals
    have hw := hide E5.out.2.2.2.2.2.2.1
    go_wp2_with fail
    refine bodyPost_ret (ret_cross3 rfl _ _ _ _ _ rfl E5.out.set2.1) rfl ?_
    refine ⟨m, av, ss, cv, au, ls, cu, aq, qs, cq, rfl, E5.out.set2.ints, HSL.out.1, (I5.out.other (gset _ _ 0 _) ?_).other (gset _ _ 1 _) ?_, hll, (IQ.out.other (gset _ _ 0 _) ?_).other (gset _ _ 1 _) ?_, hql, E5.out.set2.bel⟩
    all_goals
      intro b o s e e'
      first
        | (have h1 := HG.out b o s e
           have h2 : w.heap.size = b := by simpa using e'
           have h3 := hw.out
           omega)
        | (have h1 := HGQ.out b o s e
           have h2 : w.heap.size = b := by simpa using e'
           have h3 := hw.out
           omega)
end Go.Proofs.Ytccgjnibafbfjaa
