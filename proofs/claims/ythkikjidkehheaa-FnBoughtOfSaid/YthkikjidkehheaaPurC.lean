/- The program's functions that write a purse, and what is above in purses. -/
import Derived.Test.YthkikjidkehheaaPurI
import Derived.RegionTactic
import Derived.BigRegion
namespace Go.Proofs.Ythkikjidkehheaa
open Go.RowKit Go.Joins

/-- a row of purses with one of them written anew -/
def Wrote (w : World) (base g n cap : Nat) (ps : List Pur) (w' : World) : Prop :=
  w'.ownsRow base 47 3 (.slice (some ⟨g, 0, none⟩) n cap) n (qflat ps) ∧ w.grownBy w' (some g)
theorem wrote_old {w w1 w' : World} {base g n cap : Nat} {ps : List Pur} (h : Wrote w1 base g n cap ps w') (hb : Below w.heap.size w w1) : Wrote w base g n cap ps w' :=
  ⟨h.1, h.2.os.trans hb.os, h.2.tape.trans hb.tape, h.2.output.trans hb.output, Nat.le_trans hb.size h.2.size, fun k hk hne => (h.2.block k (Nat.lt_of_lt_of_le hk hb.size) hne).trans (hb.block k hk)⟩
set_option maxHeartbeats 4000000 in
theorem putOver_any (base g n cap k : Nat) (ps : List Pur) (x d z D q : Int) (w : World) (h : w.ownsRow base 47 3 (.slice (some ⟨g, 0, none⟩) n cap) n (qflat ps)) (hk : k < ps.length) (hp : ps[k] = (x, d, z)) (hd : 0 < d) (hq : Int.tdiv D d = q) (hq2 : 0 ≤ q ∧ q ≤ 1000000) (hb : 0 ≤ x * q ∧ x * q ≤ 1000000000000) :
    Calls Try.prog 56 #[.pointer (some ⟨g, k * 3, none⟩), .int .i64 D] w fun e w' => e = .returned (.tuple #[]) ∧ Wrote w base g n cap (ps.set k (x * q, D, z)) w' := by
  have hl := h.1
  rw [qflat_len] at hl
  have hn : ps.length = n := by omega
  subst hn
  obtain ⟨e1, e2, e3⟩ := qflat_get ps k hk
  rw [qgetD_lt hk, hp] at e1 e2
  have c1 := (h.cellAt (k * 3) (by omega)).trans e1
  have c2 := (h.cellAt (k * 3 + 1) (by omega)).trans e2
  have f1 := h.frozenAt (k * 3)
  have f2 := h.frozenAt (k * 3 + 1)
  have HP := hide hp
  have HK := hide hk
  have HO := hide h
  clear e1 e2 e3 hl hp h
  go_enter Try.func56, Try.ntmps56
  have hw1 : wrap64 q = q := by unfold wrap64; omega
  have hw2 : wrap64 (x * q) = x * q := by unfold wrap64; omega
  go_wp2
  go_region
  all_goals
    go_wp2
    go_end0
    refine ⟨rfl, ?_, ?_⟩
    · have h1 := (HO.out.stored (k * 3) (.int .i64 (x * q))).1
      rw [qflat_set1 ps k _ HK.out] at h1
      have h2 := (h1.stored (k * 3 + 1) (.int .i64 D)).1
      rw [qflat_set2 _ k _ (by rw [List.length_set]; exact HK.out), List.set_set, qgetD_set HK.out, qgetD_lt HK.out, HP.out] at h2
      exact h2
    · exact ⟨rfl, rfl, rfl, by simp, fun j hj hne => by
        have hgj : ¬ g = j := fun e => hne (by rw [e])
        show ((w.setCell _ _).setCell _ _).heap[j]? = w.heap[j]?
        rw [heap_setCell_other _ _ _ _ (fun e => hgj e.symm), heap_setCell_other _ _ _ _ (fun e => hgj e.symm)]⟩
set_option maxHeartbeats 4000000 in
theorem carry_any (base g n cap k : Nat) (ps : List Pur) (x d z D q t : Int) (j : Nat) (w : World) (h : w.ownsRow base 47 3 (.slice (some ⟨g, 0, none⟩) n cap) n (qflat ps)) (hk : k < ps.length) (hp : ps[k] = (x, d, z)) (hd : 0 < d) (hq : Int.tdiv D d = q) (hq2 : 0 ≤ q ∧ q ≤ 1000000) (hb : 0 ≤ x * q ∧ x * q ≤ 1000000000000)
    (hz : 0 ≤ z ∧ z ≤ 31) (hj : j ≤ 5) (R : List Pur) (hR : ps.set k (if apQ j (x, d, z) = true then t else x * q, D, z) = R) :
    Calls Try.prog 31 #[.pointer (some ⟨g, k * 3, none⟩), .int .i64 j, .agg #[.int .i64 t, .int .i64 D]] w fun e w' => e = .returned (.tuple #[]) ∧ Wrote w base g n cap R w' := by
  have bx := heap_alloc_new w (.cells #[.int .i64 t, .int .i64 D] 42)
  have h2 := h.alloc (.cells #[.int .i64 t, .int .i64 D] 42)
  have BB := bel1 w (.cells #[.int .i64 t, .int .i64 D] 42)
  have c1 := cell_of_block bx 0
  have c2 := cell_of_block bx 1
  have HP := hide hp
  have HK := hide hk
  have HRR := hide hR
  clear hp hR
  go_enter Try.func31, Try.ntmps31
  go_wp2
  go_region_with (go_at_call 56; refine (putOver_any base g n cap k ps x d z D q _ h2.drew HK.out HP.out hd hq hq2 hb).mono ?_; rintro e w1 ⟨rfl, H1⟩)
  have hl1 := H1.1.1
  rw [qflat_len, List.length_set] at hl1
  have hn : ps.length = n := by omega
  subst hn
  have hks : k < (ps.set k (x * q, D, z)).length := by rw [List.length_set]; exact HK.out
  obtain ⟨e1, e2, e3⟩ := qflat_get _ k hks
  rw [qgetD_set HK.out] at e1 e2 e3
  simp only at e1 e2 e3
  have d1 := (H1.1.cellAt (k * 3) (by have := HK.out; omega)).trans e1
  have d2 := (H1.1.cellAt (k * 3 + 1) (by have := HK.out; omega)).trans e2
  have d3 := (H1.1.cellAt (k * 3 + 2) (by have := HK.out; omega)).trans e3
  have HH := hide H1
  clear e1 e2 e3 hl1 c1 c2
  have hgl : g < w.heap.size := (World.ownsRow.lt h g rfl).2
  have hx : w1.heap[w.heap.size]? = some (.cells #[.int .i64 t, .int .i64 D] 42 (0, 0)) := (H1.2.block w.heap.size (by simp) (by intro e; cases e; omega)).trans bx
  have HAP := hide (show apQ j (x * q, D, z) = apQ j (x, d, z) from rfl)
  clear h h2
  go_wp2_with fail
  refine (approves_any _ _ _ _ _ hz hj).mono ?_
  rintro e w2 ⟨rfl, hb2⟩
  rw [HAP.out]
  have hx2 := (hb2.block w.heap.size (lt_of_block hx)).trans hx
  have y0 := cell_of_block hx2 0
  have y1 := cell_of_block hx2 1
  have O2 : w2.ownsRow base 47 3 (.slice (some ⟨g, 0, none⟩) ps.length cap) ps.length (qflat (ps.set k (x * q, D, z))) := by
    have h3 := OwnsQ.below (ps := ps.set k (x * q, D, z)) (by unfold OwnsQ; rw [List.length_set]; exact HH.out.1) hb2
    unfold OwnsQ at h3
    rw [List.length_set] at h3
    exact h3
  have G2 : Wrote w base g ps.length cap (ps.set k (x * q, D, z)) w2 := wrote_old ⟨O2, HH.out.2.os ▸ hb2.os ▸ rfl, by rw [hb2.tape]; exact HH.out.2.tape, by rw [hb2.output]; exact HH.out.2.output, Nat.le_trans HH.out.2.size hb2.size, fun i hi hne => (hb2.block i (Nat.lt_of_lt_of_le hi HH.out.2.size)).trans (HH.out.2.block i hi hne)⟩ (bdrew' BB)
  have HG2 := hide G2
  have f1 := O2.frozenAt (k * 3)
  have z0 := (hb2.cell (p := ⟨g, k * 3, none⟩) (Nat.lt_of_lt_of_le hgl (Nat.le_trans BB.size HH.out.2.size))).trans d1
  cases hap : apQ j (x, d, z) with
  | false =>
    go_wp2
    go_end0
    exact ⟨rfl, by have h := HRR.out; rw [hap, if_neg (by decide)] at h; rw [← h]; exact HG2.out⟩
  | true =>
    have HO2 := hide O2
    clear G2 O2 hb2 H1
    go_wp2
    go_end0
    have hRR := HRR.out
    rw [hap, if_pos rfl] at hRR
    subst hRR
    refine ⟨rfl, ?_, ?_⟩
    · have h3 := (HO2.out.stored (k * 3) (.int .i64 t)).1
      rw [qflat_set1 _ k _ hks, List.set_set, qgetD_set HK.out] at h3
      exact h3
    · exact ⟨HG2.out.2.os, HG2.out.2.tape, HG2.out.2.output, by simpa using HG2.out.2.size, fun i hi hne => by
        have hgi : ¬ g = i := fun e => hne (by rw [e])
        rw [heap_setCell_other _ _ _ _ (fun e => hgi e.symm)]
        exact HG2.out.2.block i hi hne⟩
/-- the numbers above while the first i are written -/
def abvTo (ps : List Pur) (i : Nat) : List Int := (ps.take i).map (fun p => p.1) ++ List.replicate (ps.length - i) 0
def abvL (ps : List Pur) : List Int := ps.map fun p => p.1
theorem abvTo_zero (ps : List Pur) : abvTo ps 0 = List.replicate ps.length 0 := by simp [abvTo]
theorem abvTo_all (ps : List Pur) : abvTo ps ps.length = abvL ps := by simp [abvTo, abvL]
theorem abvTo_len (ps : List Pur) (i : Nat) (h : i ≤ ps.length) : (abvTo ps i).length = ps.length := by simp [abvTo]; omega
theorem abvTo_set {ps : List Pur} {i : Nat} (h : i < ps.length) : (abvTo ps i).set i ps[i].1 = abvTo ps (i + 1) := by
  unfold abvTo
  rw [List.set_append_right _ _ (by simp; omega), List.take_add_one, List.getElem?_eq_getElem h, List.map_append, List.append_assoc]
  congr 1
  rw [show ps.length - i = (ps.length - (i + 1)) + 1 from by omega, List.replicate_succ]
  simp [Nat.min_eq_left (Nat.le_of_lt h)]
set_option maxHeartbeats 4000000 in
theorem numbersAbove_any (a : Option Addr) (cap : Nat) (ps : List Pur) (w : World) (hi : QInts w a ps) (h6 : ps.length ≤ 6) :
    Calls Try.prog 32 #[.slice a ps.length cap] w fun e w' => (∃ v, e = .returned v ∧ Owns w' w.heap.size v (abvL ps)) ∧ Below w.heap.size w w' := by
  obtain ⟨i0, hi0, hz0, hz1, hz2⟩ := info_parts info_int
  go_enter Try.func32, Try.ntmps32
  go_wp2_with (at_make; refine wpList_make_full _ rfl _ _ 22 rfl w.heap.size 3 i0 (.int .i64 0) 1 Try.underlying22 hi0 hz0 hz1 _ _ _ _ ps.length rfl rfl (by omega) (by omega) ?b2 ?b3 (Nat.le_refl _) ?_)
  case b2 => rw [hz2]; omega
  case b3 => unfold maxLen; omega
  intro w0 hown0 hgrow0
  rw [madeInts] at hown0
  have B0 : Below w.heap.size w w0 := (Below.refl _ _).grown hgrow0 (Nat.le_refl _) (fun k h => by cases h)
  have hs0 : w.heap.size + 1 ≤ w0.heap.size := (World.ownsRow.lt hown0 w.heap.size rfl).2
  clear hgrow0
  go_wp2
  go_loopw [11] (fun i wr => ∃ k : Nat, k ≤ ps.length ∧ i = .int .i64 k ∧ wr.ownsRow w.heap.size 3 1 (.slice (some ⟨w.heap.size, 0, none⟩) ps.length ps.length) ps.length ((abvTo ps k).map (Value.int .i64)) ∧ Below w.heap.size w wr ∧ w.heap.size + 1 ≤ wr.heap.size) (fun i _ => ps.length - (intOf i).toNat)
  case atStart => exact ⟨0, Nat.zero_le _, rfl, by rw [abvTo_zero]; exact hown0, B0, hs0⟩
  case round =>
    clear hown0 B0 hs0
    obtain ⟨k, hk, rfl, hown, BR, hs⟩ := hrel
    by_cases hlt : k < ps.length
    · obtain ⟨b, off, rfl, hb, c1, c2, c3⟩ := qload3 (hi.below BR) hlt
      have HS := hide (abvTo_set hlt)
      obtain ⟨⟨px, py, pz⟩, hp⟩ : ∃ p, p = ps[k] := ⟨_, rfl⟩
      rw [← hp] at c1 c2 c3 HS
      simp only at c1 c2 c3 HS
      have hl := abvTo_len ps k hk
      have hst := hown.cellAt k (by omega)
      rw [List.getElem?_map, List.getElem?_eq_getElem (by rw [hl]; exact hlt)] at hst
      simp only [Option.map_some] at hst
      have hfz := hown.frozenAt k
      have bb := bel1 wr (.cells #[.int .i64 px, .int .i64 py, .int .i64 pz] 47)
      have O1 := hide (hown.alloc (.cells #[.int .i64 px, .int .i64 py, .int .i64 pz] 47))
      have BA := hide (BR.alloc (Nat.le_trans (Nat.le_succ _) hs) (.cells #[.int .i64 px, .int .i64 py, .int .i64 pz] 47))
      have hst2 := (bb.cell (p := ⟨w.heap.size, k, none⟩) (by exact hs)).trans hst
      have hfz2 := (bb.frozen (p := ⟨w.heap.size, k, none⟩) (by exact hs)).trans hfz
      have hneq : ¬ wr.heap.size = w.heap.size := by omega
      clear hp bb
      go_wp2
      go_roundw
      case rel => exact ⟨k + 1, by omega, by go_num, by rw [← HS.out, List.map_set]; exact (O1.out.stored k _).1, BA.out.setCell (p := ⟨w.heap.size, k, none⟩) (Nat.le_refl _) _, by simp; omega⟩
      case measure => simp only [intOf]; omega
    · obtain rfl : k = ps.length := by omega
      go_wp2
      go_ret
      refine ⟨⟨_, rfl, ?_⟩, BR⟩
      rw [abvTo_all] at hown
      unfold Owns
      rw [show (abvL ps).length = ps.length from List.length_map _]
      exact hown
end Go.Proofs.Ythkikjidkehheaa
