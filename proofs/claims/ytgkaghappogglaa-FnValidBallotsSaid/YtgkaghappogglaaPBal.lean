/- The promise of ValidBallots: its law's walk. -/
import Derived.Test.YtgkaghappogglaaDrawB2
namespace Go.Proofs.Ytgkaghappogglaa
open Go.RowKit Go.Joins

theorem bal_cut {c : Int} {bs : List Int} (h : BalOk c bs) (N : Nat) (hN : bs.length = N + 1) (h1 : 1 ≤ N) : balB c (bs.take N) = true := by
  have hl : (bs.take N).length = N := by simp; omega
  refine balB_true ⟨h.1, ⟨by omega, by have := h.2.1; omega⟩, fun j hj => ?_⟩
  have hj' : j < bs.length := by omega
  have := h.2.2 j hj'
  rw [getD_lt hj, List.getElem_take]
  rwa [getD_lt hj'] at this
theorem bal_more {c : Int} {bs : List Int} (h : BalOk c bs) (h5 : c ≠ 5) : balB (c + 1) bs = true := by
  have hp := pw_succ c (by have := h.1; omega)
  have p1 := pw_pos c
  exact balB_true ⟨⟨by have := h.1; omega, by have := h.1; omega⟩, h.2.1, fun j hj => by have := h.2.2 j hj; omega⟩
theorem Ints.take {w : World} {a : Option Addr} {zs : List Int} (h : Ints w a zs) (n : Nat) : Ints w a (zs.take n) := fun hz => by
  have hl : (zs.take n).length ≤ zs.length := List.length_take_le' _ _
  obtain ⟨b, off, e, hb, hc⟩ := h (by omega)
  refine ⟨b, off, e, hb, fun k hk => ?_⟩
  rw [hc k (by omega), getD_lt hk, List.getElem_take, getD_lt]
set_option maxHeartbeats 2000000 in
theorem walk_FnValidBallots (a : Option Addr) (zs : List Nat) (cap : Nat) (w : World) (hi : Byts w a zs) (hl : zs.length ≤ maxLen) (hc : zs.length ≤ cap) :
    Calls Try.prog 3 #[.slice a zs.length cap] w fun e w' => e = .returned (.bool true) ∧ Below w.heap.size w w' := by
  by_cases h : 1048576 < zs.length
  · unfold maxLen at hl
    go_enter Try.func3, Try.ntmps3
    go_wp2
    go_ret
    exact ⟨rfl, Below.refl _ _⟩
  · have hl' : zs.length ≤ 1048576 := by omega
    clear h hl
    go_enter Try.func3, Try.ntmps3
    go_wp2_with fail
    refine (drawVB_any _ _ _ _ hi hl' hc).mono ?_
    rintro e w1 ⟨c, ab, bs, cb, rfl, hc6, ib, ⟨hb6, hcap⟩, hb1⟩
    have hn : bs.length ≤ 1048576 := by omega
    clear hi
    go_wp2_with fail
    refine (implBal_any _ _ _ _ _ ib hn).mono ?_
    rintro e w2 ⟨rfl, hb2⟩
    have i2 := ib.below hb2
    go_wp2_with fail
    refine (specValidBallots_any _ _ _ _ _ i2 hn).mono ?_
    rintro e w3 ⟨rfl, hb3⟩
    have i3 := i2.below hb3
    have B3 := bnext (bnext hb1 hb2) hb3
    by_cases hv : balB c bs = true
    · have hok := bal_of hv
      obtain ⟨N, hN⟩ : ∃ N, bs.length = N + 1 := ⟨bs.length - 1, by have := hok.2.1; omega⟩
      have HM := hide (fun h5 => bal_more hok h5)
      have HCUT := hide (fun h1 => bal_cut hok N hN h1)
      have hc15 := hok.1
      obtain ⟨hc1, hc5⟩ := hc15
      have htl : (bs.take N).length = N := by simp; omega
      have HT := hide htl
      rw [hN] at hcap hb6 ⊢
      have HNN := hide hN
      clear hok hN htl
      by_cases h1 : N = 0
      · have HN0 := hide h1
        have hone : ((N : Int) + 1 == 1) = true := by rw [h1]; rfl
        have hone2 : (N : Int) + 1 = 1 := by omega
        clear h1
        by_cases h5 : c = 5
        · have hf : (c == 5) = true := by simpa using h5
          clear h5
          go_wp2
          go_ret
          exact ⟨rfl, B3⟩
        · have hf : (c == 5) = false := by simpa using h5
          have hmm := HM.out h5
          clear h5
          go_wp2_with fail
          have hcall := implBal_any (c + 1) ab cb bs w3 i3 hn
          rw [HNN.out] at hcall
          refine hcall.mono ?_
          rintro e w4 ⟨rfl, hb4⟩
          go_wp2
          go_ret
          exact ⟨rfl, bnext B3 hb4⟩
      · have hone : ((N : Int) + 1 == 1) = false := by simp; omega
        have hone2 : ¬ (N : Int) + 1 = 1 := by omega
        have hct := HCUT.out (by omega)
        have hw : IntKind.i64.wrap (((N + 1 : Nat) : Int) - 1) = (N : Int) := by rw [IntWalk.i64_in _ (by omega)]; omega
        have hw2 : ((N + 1 : Nat) : Int) - 1 = (N : Int) := by omega
        have hcI : (N : Int) ≤ (cb : Int) := by omega
        by_cases h5 : c = 5
        · have hf : (c == 5) = true := by simpa using h5
          have H5 := hide h5
          clear h5
          go_wp2_with fail
          have hcall := implBal_any c ab cb (bs.take N) w3 (i3.take N) (by rw [HT.out]; omega)
          rw [HT.out] at hcall
          refine hcall.mono ?_
          rintro e w4 ⟨rfl, hb4⟩
          go_wp2
          go_ret
          exact ⟨rfl, bnext B3 hb4⟩
        · have hf : (c == 5) = false := by simpa using h5
          have hmm := HM.out h5
          clear h5
          go_wp2_with fail
          have hcall := implBal_any c ab cb (bs.take N) w3 (i3.take N) (by rw [HT.out]; omega)
          rw [HT.out] at hcall
          refine hcall.mono ?_
          rintro e w4 ⟨rfl, hb4⟩
          go_wp2_with fail
          have hcall := implBal_any (c + 1) ab cb bs w4 (i3.below hb4) hn
          rw [HNN.out] at hcall
          refine hcall.mono ?_
          rintro e w5 ⟨rfl, hb5⟩
          go_wp2
          go_ret
          exact ⟨rfl, bnext (bnext B3 hb4) hb5⟩
    · have hv : balB c bs = false := by simpa using hv
      go_wp2_with fail
      refine (specValidBallots_any _ _ _ _ _ i3 hn).mono ?_
      rintro e w4 ⟨rfl, hb4⟩
      go_wp2
      go_ret
      exact ⟨ret_bool (by simp), bnext B3 hb4⟩
end Go.Proofs.Ytgkaghappogglaa
