/- The draw of ballots, seats and committees. -/
import Derived.Test.YthkikjidkehheaaLawB
namespace Go.Proofs.Ythkikjidkehheaa
open Go.RowKit Go.Joins

theorem gbelow {w a b : World} {R : Nat} (h : w.grownBy a (some R)) (hb : Below w.heap.size a b) : w.grownBy b (some R) :=
  ⟨hb.os.trans h.os, hb.tape.trans h.tape, hb.output.trans h.output, Nat.le_trans h.size hb.size, fun k hk hne => (hb.block k hk).trans (h.block k hk hne)⟩
theorem gpick {w a b : World} {R : Nat} (h : w.grownBy a (some R)) (hb : a.grownBy b (some R)) : w.grownBy b (some R) := gtrans h hb
theorem grefl0 (w : World) (R : Nat) : w.grownBy w (some R) := ⟨rfl, rfl, rfl, Nat.le_refl _, fun _ _ _ => rfl⟩
theorem Owns.empty (w : World) {base : Nat} (hb : base ≤ w.heap.size) : Owns (w.alloc (.cells #[] 3)) base (.slice (some ⟨w.heap.size, 0, none⟩) 0 0) [] := World.ownsRow_lit w #[] 0 hb (by simp) rfl
/-- a list of numbers as the walk lays it -/
theorem lit (w : World) (zs : List Int) : Ints (w.alloc (.cells (zs.map (Value.int .i64)).toArray 3)) (some ⟨w.heap.size, 0, none⟩) zs := fun _ =>
  ⟨w.heap.size, 0, rfl, by simp, fun k hk => by
    rw [Nat.zero_add]
    simp [go_sem, hk, List.getD_eq_getElem?_getD]⟩
/-- how many a list lacks to n -/
def lackOf (n : Nat) : Value → Nat
  | .slice _ m _ => n - m
  | _ => 0

/-- a list under way: the list, the reader -/
def UI (R : Nat) (w : World) (n : Nat) (v : Value) (ls : List Int) (wq : World) : Prop :=
  Owns wq w.heap.size v ls ∧ w.grownBy wq (some R) ∧ RD wq R n ∧ w.heap.size ≤ wq.heap.size ∧ R < w.heap.size
theorem UI.rd {R : Nat} {w : World} {n : Nat} {v : Value} {ls : List Int} {wq : World} (h : UI R w n v ls wq) : RD wq R n := h.2.2.1
theorem UI.new {R : Nat} {w : World} {n : Nat} (h : RD w R n) : UI R w n (.slice (some ⟨w.heap.size, 0, none⟩) 0 0) [] (w.alloc (.cells #[] 3)) :=
  ⟨Owns.empty w (Nat.le_refl _), gbelow (grefl0 w R) (bel1 w _), h.below (bel1 w _), by simp, h.lt⟩
theorem UI.below {R : Nat} {w : World} {n : Nat} {v : Value} {ls : List Int} {wq w' : World} (h : UI R w n v ls wq) (hb : Below wq.heap.size wq w') : UI R w n v ls w' := by
  obtain ⟨h2, h3, h4, h5, h6⟩ := h
  exact ⟨h2.below hb, gbelow h3 (hb.mono (by omega)), h4.below hb, Nat.le_trans h5 hb.size, h6⟩
theorem UI.pick {R : Nat} {w : World} {n k : Nat} {v : Value} {ls : List Int} {wq w' : World} (h : UI R w n v ls wq) (hg : wq.grownBy w' (some R)) (hr : RD w' R k) : UI R w k v ls w' := by
  obtain ⟨h2, h3, _, h5, h6⟩ := h
  exact ⟨h2.other hg (fun g e => by cases e; omega), gpick h3 hg, hr, Nat.le_trans h5 hg.size, h6⟩
theorem UI.more {R : Nat} {w : World} {n k : Nat} {v : Value} {ls : List Int} {wq : World} (h : UI R w n v ls wq) (hk : n ≤ k) : UI R w k v ls wq :=
  ⟨h.1, h.2.1, h.2.2.1.more hk, h.2.2.2⟩
theorem UI.push {R : Nat} {w : World} {z : Int} {n : Nat} {v v' : Value} {ls : List Int} {wq w5 : World} {o : Obj} (h : UI R w n v ls wq) (hg : (wq.alloc o).grownBy w5 v.ownBlock)
    (ho : w5.ownsRow w.heap.size 3 1 v' (ls.length + 1) (ls.map (Value.int .i64) ++ [.int .i64 z])) : UI R w n v' (ls ++ [z]) w5 := by
  obtain ⟨h2, h3, h4, h5, h6⟩ := h.below (bel1 wq o)
  exact ⟨Owns.push ho, gbelow h3 ((Below.refl _ _).grown hg (by omega) (fun k hk => by have := own_ge h2 k hk; omega)), h4.grown hg (fun g e => by have := own_ge h2 g e; omega), Nat.le_trans h5 hg.size, h6⟩
/-- a write into the list -/
theorem UI.row {R : Nat} {w : World} {n : Nat} {v v' : Value} {ls ls' : List Int} {wq w5 : World} {k : Nat} (h : UI R w n v ls wq) (hk : v.ownBlock = some k) (hg : wq.grownBy w5 (some k)) (ho : Owns w5 w.heap.size v' ls') : UI R w n v' ls' w5 := by
  obtain ⟨h2, h3, h4, h5, h6⟩ := h
  have hge := own_ge h2 k hk
  exact ⟨ho, gbelow h3 ((Below.refl _ _).grown hg (by omega) (fun j hj => by cases hj; omega)), h4.grown hg (fun g e => by cases e; omega), Nat.le_trans h5 hg.size, h6⟩
/-- a list more in the place of this one -/
theorem UI.fresh {R : Nat} {w : World} {n : Nat} {v : Value} {ls : List Int} {wq : World} (h : UI R w n v ls wq) : UI R w n (.slice (some ⟨wq.heap.size, 0, none⟩) 0 0) [] (wq.alloc (.cells #[] 3)) := by
  obtain ⟨_, h3, h4, h5, h6⟩ := h.below (bel1 wq (.cells #[] 3))
  exact ⟨Owns.empty wq h.2.2.2.1, h3, h4, h5, h6⟩

/-- What a draw of ballots leaves. -/
def BalPost (R n : Nat) (w : World) (e : Ending) (w' : World) : Prop :=
  ∃ (c : Int) (v : Value) (bs : List Int), e = .returned (.tuple #[.int .i64 c, v]) ∧ (0 ≤ c ∧ c ≤ 6) ∧ Owns w' w.heap.size v bs ∧ bs.length ≤ 6 ∧ w.grownBy w' (some R) ∧ RD w' R n
theorem UI.done {R : Nat} {w : World} {n k : Nat} {c : Int} {v : Value} {ls : List Int} {wq : World} (h : UI R w n v ls wq) (hc : 0 ≤ c ∧ c ≤ 6) (hl : ls.length ≤ 6) (hk : n ≤ k) : BalPost R k w (.returned (.tuple #[.int .i64 c, v])) wq :=
  ⟨c, v, ls, rfl, hc, h.1, hl, h.2.1, h.2.2.1.more hk⟩
set_option maxHeartbeats 800000 in
set_option maxRecDepth 100000 in
theorem ballotsOf_any (R n : Nat) (w : World) (hr : RD w R n) (hn : n < 1073730000) :
    Calls Try.prog 38 #[.pointer (some ⟨R, 0, none⟩)] w (BalPost R (n + 30) w) := by
  obtain ⟨i0, hi0, hz0, hz1, hz2⟩ := info_parts info_int
  have hRw := hr.lt
  have hl1 : Ints (w.alloc (.cells #[.int .i64 4, .int .i64 5, .int .i64 3, .int .i64 4, .int .i64 2, .int .i64 1] 3)) (some ⟨w.heap.size, 0, none⟩) [4, 5, 3, 4, 2, 1] := lit w [4, 5, 3, 4, 2, 1]
  have r1 := hr.below (bel1 w (.cells #[.int .i64 4, .int .i64 5, .int .i64 3, .int .i64 4, .int .i64 2, .int .i64 1] 3))
  have B1 := bel1 w (.cells #[.int .i64 4, .int .i64 5, .int .i64 3, .int .i64 4, .int .i64 2, .int .i64 1] 3)
  have HL1 := hide hl1
  clear hr hl1
  go_enter Try.func38, Try.ntmps38
  go_wp2_with fail
  refine (one_any R n 6 _ _ _ r1 (by omega) HL1.out (by simp) (by simp) (fun b o s e => by cases e; omega)).mono ?_
  rintro e w1 ⟨c, hc, rfl, g1, rd1⟩
  have hc5 : 1 ≤ c ∧ c ≤ 5 := by simp at hc; omega
  obtain ⟨hc1, hc5⟩ := hc5
  have G1 : w.grownBy w1 (some R) := gpick (gbelow (grefl0 w R) B1) g1
  have hw1 := G1.size
  have V1 : UI R w (n + 1) (.slice (some ⟨w1.heap.size, 0, none⟩) 0 0) [] (w1.alloc (.cells #[] 3)) :=
    ⟨Owns.empty w1 G1.size, gbelow G1 ((bel1 w1 _).mono G1.size), rd1.below (bel1 w1 _), by simp; omega, hRw⟩
  have V2 := V1.below (bel1 (w1.alloc (.cells #[] 3)) (.cells #[.int .i64 4, .int .i64 6, .int .i64 3, .int .i64 5, .int .i64 2, .int .i64 1] 3))
  have hl2 : Ints ((w1.alloc (.cells #[] 3)).alloc (.cells #[.int .i64 4, .int .i64 6, .int .i64 3, .int .i64 5, .int .i64 2, .int .i64 1] 3)) (some ⟨w1.heap.size + 1, 0, none⟩) [4, 6, 3, 5, 2, 1] := by simpa using lit (w1.alloc (.cells #[] 3)) [4, 6, 3, 5, 2, 1]
  have HL2 := hide hl2
  clear hl2
  have HV2 := hide V2
  clear hc r1 B1 HL1 g1 rd1 G1 V1 V2
  go_wp2_with fail
  refine (one_any R (n + 1) 6 _ _ _ HV2.out.rd (by omega) HL2.out (by simp) (by simp) (fun b o s e => by cases e; simp; omega)).mono ?_
  rintro e w2 ⟨N, hN, rfl, g2, rd2⟩
  have hN6 : 1 ≤ N ∧ N ≤ 6 := by simp at hN; omega
  obtain ⟨hN1, hN6⟩ := hN6
  have V3 := HV2.out.pick g2 rd2
  clear hN HV2 HL2 g2 rd2
  go_wp2
  go_loopw [5] (fun v wq => ∃ ls : List Int, (ls.length : Int) ≤ N ∧ UI R w (n + 2 + 3 * ls.length) v ls wq) (fun v _ => lackOf 6 v)
  case atStart => exact ⟨[], by simp; omega, V3⟩
  case round =>
    clear V3
    obtain ⟨ls, hl6, hs⟩ := hrel
    obtain ⟨va, vc, rfl, _, _⟩ := hs.1.form
    have HS := hide hs
    clear hs
    by_cases hlt : (ls.length : Int) < N
    · have p1 := pw_pos c
      have p5 := pw_le6 c (by omega)
      by_cases hpos : 0 < ls.length
      · go_wp2_with (go_at_call 48; refine (power_any _ _ (by omega) (by omega)).mono ?_; rintro e w' ⟨rfl, rfl⟩)
        refine (pick_any R _ _ _ HS.out.rd (by omega) ⟨by omega, by omega⟩).mono ?_
        rintro e w3 ⟨y, rfl, hy0, hyl, _, g3, rd3⟩
        have V3 := hide (HS.out.pick g3 rd3)
        have hy64 : y < 64 := by have := hyl (by omega); omega
        clear HS g3 rd3 hyl
        go_wp2_with fail
        refine (pick_any R _ _ _ V3.out.rd (by omega) ⟨by omega, by omega⟩).mono ?_
        rintro e w4 ⟨r, rfl, _, _, _, g4, rd4⟩
        have V4 := hide (V3.out.pick g4 rd4)
        clear V3 g4 rd4
        by_cases e0 : (r == 0) = true
        · go_wp2_with fail
          refine (pick_any R _ _ _ V4.out.rd (by omega) ⟨by omega, by omega⟩).mono ?_
          rintro e w5 ⟨j, rfl, hj0, hjl, _, g5, rd5⟩
          have V5 := hide (V4.out.pick g5 rd5)
          obtain ⟨i, rfl⟩ := Int.eq_ofNat_of_zero_le hj0
          have hil : i < ls.length := by have := hjl (by omega); omega
          obtain ⟨b, off, hva, hbl, hcc⟩ := V5.out.1.ints hpos
          subst hva
          have hck := hcc i hil
          rw [getD_lt hil] at hck
          have hown := V5.out.1
          have hw5 := V5.out.2.2.2.1
          obtain ⟨z, hz⟩ : ∃ z, z = ls[i] := ⟨_, rfl⟩
          rw [← hz] at hck
          clear V4 g5 rd5 hjl hcc hz
          go_wp2_with ((at_builtin; refine wpList_append_own _ rfl _ _ 22 rfl w.heap.size 3 i0 (.int .i64 0) 1 8 Try.underlying22 hi0 hz0 hz1 hz2 rfl (by decide) _ _ _ rfl (hown.alloc _) ⟨w5.heap.size, 0, none⟩ 1 1 [.int .i64 z] rfl rfl (cell_one_new w5 _ _) (by intro u hu; simp at hu; subst hu; rfl) (by unfold maxLen; omega) (by omega) (by first | omega | (simp; omega)) ?_))
          intro v' wx hown' hgrow _
          have VX := V5.out.push hgrow hown'
          obtain ⟨zz, hzz⟩ : ∃ zz : List Int, zz = ls ++ [z] := ⟨_, rfl⟩
          rw [← hzz] at VX
          have hzl : zz.length = ls.length + 1 := by rw [hzz, List.length_append]; rfl
          obtain ⟨qa, qc, rfl, _⟩ := VX.1.form
          have HZ := hide hzl
          have HQ := hide VX
          clear hown hown' hgrow VX hzz hzl
          go_wp2
          go_roundw
          case rel => exact ⟨zz, by have := HZ.out; omega, HQ.out.more (by have := HZ.out; omega)⟩
          case measure => simp only [lackOf]; have := HZ.out; omega
        · have e0 : (r == 0) = false := by simpa using e0
          have hown := V4.out.1
          have hw4 := V4.out.2.2.2.1
          go_wp2_with ((at_builtin; refine wpList_append_own _ rfl _ _ 22 rfl w.heap.size 3 i0 (.int .i64 0) 1 8 Try.underlying22 hi0 hz0 hz1 hz2 rfl (by decide) _ _ _ rfl (hown.alloc _) ⟨w4.heap.size, 0, none⟩ 1 1 [.int .i64 y] rfl rfl (cell_one_new w4 _ _) (by intro u hu; simp at hu; subst hu; rfl) (by unfold maxLen; omega) (by omega) (by first | omega | (simp; omega)) ?_))
          intro v' wx hown' hgrow _
          have VX := V4.out.push hgrow hown'
          obtain ⟨zz, hzz⟩ : ∃ zz : List Int, zz = ls ++ [y] := ⟨_, rfl⟩
          rw [← hzz] at VX
          have hzl : zz.length = ls.length + 1 := by rw [hzz, List.length_append]; rfl
          obtain ⟨qa, qc, rfl, _⟩ := VX.1.form
          have HZ := hide hzl
          have HQ := hide VX
          clear hown hown' hgrow VX hzz hzl
          go_wp2
          go_roundw
          case rel => exact ⟨zz, by have := HZ.out; omega, HQ.out.more (by have := HZ.out; omega)⟩
          case measure => simp only [lackOf]; have := HZ.out; omega
      · have hl0 : ls.length = 0 := by omega
        have g0 : decide (0 < ls.length) = false := by rw [decide_eq_false_iff_not]; omega
        have hle : ls = [] := List.length_eq_zero_iff.1 hl0
        subst hle
        clear hl0 g0
        go_wp2_with (go_at_call 48; refine (power_any _ _ (by omega) (by omega)).mono ?_; rintro e w' ⟨rfl, rfl⟩)
        refine (pick_any R _ _ _ HS.out.rd (by simp; omega) ⟨by omega, by omega⟩).mono ?_
        rintro e w3 ⟨y, rfl, hy0, hyl, _, g3, rd3⟩
        have V3 := hide (HS.out.pick g3 rd3)
        have hy64 : y < 64 := by have := hyl (by omega); omega
        have hown := V3.out.1
        have hw3 := V3.out.2.2.2.1
        clear HS g3 rd3 hyl
        all_goals
          go_wp2_with ((at_builtin; refine wpList_append_own _ rfl _ _ 22 rfl w.heap.size 3 i0 (.int .i64 0) 1 8 Try.underlying22 hi0 hz0 hz1 hz2 rfl (by decide) _ _ _ rfl (hown.alloc _) ⟨w3.heap.size, 0, none⟩ 1 1 [.int .i64 y] rfl rfl (cell_one_new w3 _ _) (by intro u hu; simp at hu; subst hu; rfl) (by unfold maxLen; simp) (by simp) (by first | omega | (simp; omega)) ?_))
          intro v' wx hown' hgrow _
          have VX := V3.out.push hgrow hown'
          obtain ⟨zz, hzz⟩ : ∃ zz : List Int, zz = ([] : List Int) ++ [y] := ⟨_, rfl⟩
          rw [← hzz] at VX
          have hzl : zz.length = 1 := by rw [hzz, List.length_append]; rfl
          obtain ⟨qa, qc, rfl, _⟩ := VX.1.form
          have HZ := hide hzl
          have HQ := hide VX
          clear hown hown' hgrow VX hzz hzl
          go_wp2
          go_roundw
          case rel => exact ⟨zz, by have := HZ.out; omega, HQ.out.more (by have := HZ.out; simp; omega)⟩
          case measure => simp only [lackOf]; have := HZ.out; simp; omega
    · have hNl : (ls.length : Int) = N := by omega
      have hpos : 0 < ls.length := by omega
      have hl6' : ls.length ≤ 6 := by omega
      have HNL := hide hNl
      clear hNl
      go_wp2_with fail
      refine (pick_any R _ _ _ HS.out.rd (by omega) ⟨by omega, by omega⟩).mono ?_
      rintro e w3 ⟨r, rfl, _, _, _, g3, rd3⟩
      have V3 := hide (HS.out.pick g3 rd3)
      clear HS g3 rd3
      by_cases e0 : (r == 0) = true
      · have V4 := hide (V3.out.below (bel1 w3 (.cells #[.int .i64 0, .int .i64 6] 3)))
        have hw3 := V3.out.2.2.2.1
        go_wp2_with fail
        refine (one_any R _ 2 _ _ _ V4.out.rd (by omega) (show Ints (w3.alloc (.cells #[.int .i64 0, .int .i64 6] 3)) (some ⟨w3.heap.size, 0, none⟩) [0, 6] from lit w3 [0, 6]) (by simp) (by simp) (fun b o s e => by cases e; omega)).mono ?_
        rintro e w5 ⟨x, hx, rfl, g5, rd5⟩
        have hx6 : 0 ≤ x ∧ x ≤ 6 := by simp at hx; omega
        have V5 := hide (V4.out.pick g5 rd5)
        clear hx V4 V3 g5 rd5
        go_wp2
        go_ret2
        exact V5.out.done hx6 hl6' (by omega)
      · have e0 : (r == 0) = false := by simpa using e0
        by_cases e1 : (r == 1) = true
        · go_wp2
          go_ret2
          exact V3.out.fresh.done ⟨by omega, by omega⟩ (by simp) (by omega)
        · have e1 : (r == 1) = false := by simpa using e1
          by_cases e2 : (r == 2) = true
          · have V4 := hide (V3.out.below (bel1 w3 (.cells #[.int .i64 (-1), .int .i64 32] 3)))
            have hw3 := V3.out.2.2.2.1
            go_wp2_with fail
            refine (one_any R _ 2 _ _ _ V4.out.rd (by omega) (show Ints (w3.alloc (.cells #[.int .i64 (-1), .int .i64 32] 3)) (some ⟨w3.heap.size, 0, none⟩) [-1, 32] from lit w3 [-1, 32]) (by simp) (by simp) (fun b o s e => by cases e; omega)).mono ?_
            rintro e w5 ⟨x, _, rfl, g5, rd5⟩
            have V5 := hide (V4.out.pick g5 rd5)
            have h5 := V5.out.1
            have h5' : w5.ownsRow w.heap.size 3 1 (.slice va ls.length vc) ls.length (ls.map (Value.int .i64)) := h5
            rcases ownsRow_forms h5' with ⟨_, h0⟩ | ⟨gb, cap', hv⟩
            · omega
            · simp only [Value.slice.injEq] at hv
              obtain ⟨rfl, hv2, hv3⟩ := hv
              clear hv2 hv3
              have hst := h5'.cellAt 0 (by omega)
              rw [List.getElem?_map, List.getElem?_eq_getElem hpos] at hst
              have hfz := h5'.frozenAt 0
              have HST := hide (h5'.stored 0 (.int .i64 x))
              clear V4 V3 g5 rd5 h5 h5'
              go_wp2
              go_ret2
              have H1 := HST.out.1
              rw [show (ls.map (Value.int .i64)).set 0 (.int .i64 x) = (ls.set 0 x).map (Value.int .i64) from by rw [List.map_set]] at H1
              have ho' : Owns (w5.setCell ⟨gb, 0, none⟩ (.int .i64 x)) w.heap.size (.slice (some ⟨gb, 0, none⟩) ls.length vc) (ls.set 0 x) := by
                unfold Owns
                rw [List.length_set]
                exact H1
              have V6 := V5.out.row (k := gb) rfl (gset _ gb 0 _) ho'
              exact V6.done ⟨by omega, by omega⟩ (by rw [List.length_set]; omega) (by omega)
          · have e2 : (r == 2) = false := by simpa using e2
            go_wp2
            go_ret2
            exact V3.out.done ⟨by omega, by omega⟩ hl6' (by omega)
end Go.Proofs.Ythkikjidkehheaa
