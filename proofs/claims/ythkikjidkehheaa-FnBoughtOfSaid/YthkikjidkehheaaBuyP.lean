/- A name is paid, in the program. -/
import Derived.Test.YthkikjidkehheaaPurC
import Derived.Test.YthkikjidkehheaaBuyS
namespace Go.Proofs.Ythkikjidkehheaa
open Go.RowKit Go.Joins

set_option maxHeartbeats 4000000 in
theorem pay_any (base g n cap k : Nat) (ps : List Pur) (x d z D q t : Int) (j : Nat) (w : World) (h : w.ownsRow base 47 3 (.slice (some ⟨g, 0, none⟩) n cap) n (qflat ps)) (hk : k < ps.length) (hp : ps[k] = (x, d, z)) (hd : 0 < d) (hq : Int.tdiv D d = q) (hq2 : 0 ≤ q ∧ q ≤ 1000000) (hb : 0 ≤ x * q ∧ x * q ≤ 1000000000000)
    (hz : 0 ≤ z ∧ z ≤ 31) (hj : j ≤ 5) (ht : 0 ≤ t ∧ t ≤ 1000000) (m : Int) (hm : (if x * q - t < 0 then 0 else x * q - t) = m) (R : List Pur) (hR : ps.set k (if apQ j (x, d, z) = true then m else x * q, D, z) = R) :
    Calls Try.prog 36 #[.pointer (some ⟨g, k * 3, none⟩), .int .i64 j, .agg #[.int .i64 t, .int .i64 D]] w fun e w' => e = .returned (.tuple #[]) ∧ Wrote w base g n cap R w' := by
  have bx := heap_alloc_new w (.cells #[.int .i64 t, .int .i64 D] 42)
  have h2 := h.alloc (.cells #[.int .i64 t, .int .i64 D] 42)
  have BB := bel1 w (.cells #[.int .i64 t, .int .i64 D] 42)
  have c1 := cell_of_block bx 0
  have c2 := cell_of_block bx 1
  have HP := hide hp
  have HK := hide hk
  have HRR := hide hR
  clear hp hR
  go_enter Try.func36, Try.ntmps36
  go_wp2
  go_region_with (go_at_call 56; refine (putOver_any base g n cap k ps x d z D q _ h2.drew HK.out HP.out hd hq hq2 hb).mono ?_; rintro e w1 ⟨rfl, H1⟩)
  have hl1 := H1.1.1
  rw [qflat_len, List.length_set] at hl1
  have hn : ps.length = n := by omega
  subst hn
  have hks : k < (ps.set k (x * q, D, z)).length := by rw [List.length_set]; exact HK.out
  obtain ⟨e1, e2, e3⟩ := qflat_get _ k hks
  rw [qgetD_set HK.out] at e1 e2 e3
  simp only at e1 e2 e3
  have d1 := (H1.1.cellAt (k * 3) (by have := HK.out; omega)).trans e1
  have d2 := (H1.1.cellAt (k * 3 + 1) (by have := HK.out; omega)).trans e2
  have d3 := (H1.1.cellAt (k * 3 + 2) (by have := HK.out; omega)).trans e3
  have HH := hide H1
  clear e1 e2 e3 hl1 c1 c2
  have hgl : g < w.heap.size := (World.ownsRow.lt h g rfl).2
  have hx : w1.heap[w.heap.size]? = some (.cells #[.int .i64 t, .int .i64 D] 42 (0, 0)) := (H1.2.block w.heap.size (by simp) (by intro e; cases e; omega)).trans bx
  have HAP := hide (show apQ j (x * q, D, z) = apQ j (x, d, z) from rfl)
  clear h h2
  go_wp2_with fail
  refine (approves_any _ _ _ _ _ hz hj).mono ?_
  rintro e w2 ⟨rfl, hb2⟩
  rw [HAP.out]
  have hx2 := (hb2.block w.heap.size (lt_of_block hx)).trans hx
  have y0 := cell_of_block hx2 0
  have y1 := cell_of_block hx2 1
  have O2 : w2.ownsRow base 47 3 (.slice (some ⟨g, 0, none⟩) ps.length cap) ps.length (qflat (ps.set k (x * q, D, z))) := by
    have h3 := OwnsQ.below (ps := ps.set k (x * q, D, z)) (by unfold OwnsQ; rw [List.length_set]; exact HH.out.1) hb2
    unfold OwnsQ at h3
    rw [List.length_set] at h3
    exact h3
  have G2 : Wrote w base g ps.length cap (ps.set k (x * q, D, z)) w2 := wrote_old ⟨O2, HH.out.2.os ▸ hb2.os ▸ rfl, by rw [hb2.tape]; exact HH.out.2.tape, by rw [hb2.output]; exact HH.out.2.output, Nat.le_trans HH.out.2.size hb2.size, fun i hi hne => (hb2.block i (Nat.lt_of_lt_of_le hi HH.out.2.size)).trans (HH.out.2.block i hi hne)⟩ (bdrew' BB)
  have HG2 := hide G2
  have f1 := O2.frozenAt (k * 3)
  have z0 := (hb2.cell (p := ⟨g, k * 3, none⟩) (Nat.lt_of_lt_of_le hgl (Nat.le_trans BB.size HH.out.2.size))).trans d1
  cases hap : apQ j (x, d, z) with
  | false =>
    go_wp2
    go_end0
    exact ⟨rfl, by have h := HRR.out; rw [hap, if_neg (by decide)] at h; rw [← h]; exact HG2.out⟩
  | true =>
    have HO2 := hide O2
    clear G2 O2 hb2 H1
    obtain ⟨X, hX⟩ : ∃ X, X = x * q := ⟨_, rfl⟩
    have HX := hide hX
    rw [← hX] at hb z0 hm
    have HMM := hide hm
    clear hX hm
    go_wp2
    go_region
    all_goals
      rw [HMM.out]
      go_wp2
      go_end0
      have hRR := HRR.out
      rw [hap, if_pos rfl] at hRR
      subst hRR
      refine ⟨rfl, ?_, ?_⟩
      · have h3 := (HO2.out.stored (k * 3) (.int .i64 m)).1
        rw [qflat_set1 _ k _ hks, List.set_set, qgetD_set HK.out] at h3
        exact h3.drew
      · exact ⟨HG2.out.2.os, HG2.out.2.tape, HG2.out.2.output, by simpa using HG2.out.2.size, fun i hi hne => by
          have hgi : ¬ g = i := fun e => hne (by rw [e])
          show (w2.setCell _ _).heap[i]? = _
          rw [heap_setCell_other _ _ _ _ (fun e => hgi e.symm)]
          exact HG2.out.2.block i hi hne⟩
end Go.Proofs.Ythkikjidkehheaa
