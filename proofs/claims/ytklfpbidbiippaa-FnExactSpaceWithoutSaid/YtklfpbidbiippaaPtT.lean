/- Slices of parts among a law's arguments: opened, copied. -/
import Derived.Test.YtklfpbidbiippaaPtS
import Derived.Deep.SlicePairs
namespace Go.Proofs.Ytklfpbidbiippaa
open Go.ChangeShapes Go.WideShapes Go.ChangeAt Go.RowKit Go.Joins Go.Deep

section
variable {H : Type} {enc : TypeId × Value → H} {P : Program} {w : World} {base : Nat} {spare : Nat → Bool} {held : Bool}
theorem open_parts {r : Reach} {b0 : Nat} {t e f : TypeId} {f0 f1 : Field} {v : Value} {d : DataW H} {p : List MemPlace} (ht : P.underlying t = some (.slice e)) (he : P.underlying e = some (.struct #[f0, f1])) (hf : P.underlying f = some (.int .i64))
    (ce : P.cellsOf e = 2) (cf : P.cellsOf f = 1) (o0 : f0.offset = 0) (o1 : f1.offset = 1) (t0 : f0.type = f) (t1 : f1.type = f) (hv : Value.okWide P w r b0 t v) (h : DataW.Trod enc P w base spare held t v d p) :
    ∃ a ps cap, v = .slice a ps.length cap ∧ PInts w a ps ∧ ps.length ≤ maxLen ∧ ∀ q ∈ ps, (Lit.int .i64 q.1).wf = true ∧ (Lit.int .i64 q.2).wf = true := by
  obtain ⟨a0, len0, cap0, rfl⟩ := okWide_slice ht hv
  obtain ⟨fuel, hfu⟩ := h
  rcases open_slice_pairs ht he ce o0 o1 (by rw [t0]; exact cf) (by rw [t1]; exact cf) hfu with ⟨hcs, _⟩ | ⟨a, len, cap, m, n, V0, V1, D0, D1, P0, P1, hcs, hb, hl, hm, hmm, _, hcell⟩
  · simp [Value.cells] at hcs
    obtain ⟨rfl, rfl, rfl⟩ := hcs
    exact ⟨none, [], 0, rfl, fun h => by simp at h, by simp, fun q hq => by cases hq⟩
  · simp [Value.cells] at hcs
    obtain ⟨rfl, rfl, rfl⟩ := hcs
    have hlm : len0 ≤ m := by rw [hmm]; split <;> omega
    have hint : ∀ i, i < m → (V0 i = .int .i64 (intOf (V0 i)) ∧ (Lit.int .i64 (intOf (V0 i))).wf = true) ∧ (V1 i = .int .i64 (intOf (V1 i)) ∧ (Lit.int .i64 (intOf (V1 i))).wf = true) := fun i hi => by
      obtain ⟨_, _, h0, h1⟩ := hcell i hi
      rw [t0] at h0
      rw [t1] at h1
      obtain ⟨x, e0, _, w0⟩ := DataW.trod_int hf h0
      obtain ⟨y, e1, _, w1⟩ := DataW.trod_int hf h1
      simp at e0 e1
      rw [e0, e1]
      exact ⟨⟨rfl, w0⟩, rfl, w1⟩
    refine ⟨some a, (List.range len0).map fun i => (intOf (V0 i), intOf (V1 i)), cap0, by simp, fun h0 => ?_, by simp; omega, fun q hq => ?_⟩
    · rw [List.length_map, List.length_range] at h0
      have hc0 := (hcell 0 (by omega)).1
      obtain ⟨b, off, spot⟩ := a
      have hspot : spot = none := by simpa [Addr.add] using World.cell?_spot hc0
      subst hspot
      have hb' : b < w.heap.size := World.block_lt_of_cell? w ⟨b, off, none⟩ (by simpa [Addr.add] using hc0)
      refine ⟨b, off, rfl, hb', fun k hk => ?_⟩
      rw [List.length_map, List.length_range] at hk
      obtain ⟨h1, h2, _⟩ := hcell k (by omega)
      obtain ⟨⟨e0, _⟩, e1, _⟩ := hint k (by omega)
      have ea : ∀ j, (⟨b, off, none⟩ : Addr).add j = ⟨b, off + j, none⟩ := fun j => by
        unfold Addr.add
        by_cases h : j = 0 <;> simp [h]
      rw [ea] at h1 h2
      rw [e0] at h1
      rw [e1] at h2
      have eg : ((List.range len0).map fun i => (intOf (V0 i), intOf (V1 i))).getD k (0, 0) = (intOf (V0 k), intOf (V1 k)) := by
        rw [List.getD_eq_getElem?_getD, List.getElem?_map, List.getElem?_range hk]
        rfl
      rw [eg]
      exact ⟨h1, by rw [Nat.add_assoc]; exact h2⟩
    · obtain ⟨i, hi, rfl⟩ := List.mem_map.1 hq
      have hi' := List.mem_range.1 hi
      obtain ⟨⟨_, w0⟩, _, w1⟩ := hint i (by omega)
      exact ⟨w0, w1⟩
end
theorem pflat_zero : ∀ n, pflat (List.replicate n ((0 : Int), (0 : Int))) = List.replicate (n * 2) (.int .i64 0)
  | 0 => rfl
  | n + 1 => by
    rw [List.replicate_succ, pflat_cons, pflat_zero n, show (n + 1) * 2 = n * 2 + 1 + 1 from by omega, List.replicate_succ, List.replicate_succ]
theorem madeParts (n : Nat) : (madeCells #[Value.int .i64 0, Value.int .i64 0] (n * 2)).toList = pflat (List.replicate n (0, 0)) := by
  rw [pflat_zero]
  refine List.eq_replicate_iff.2 ⟨by simp [size_madeCells], fun b hb => ?_⟩
  simp [madeCells] at hb
  obtain ⟨i, _, rfl⟩ := hb
  rcases (show i % 2 = 0 ∨ i % 2 = 1 from by omega) with e | e <;> rw [e] <;> rfl
theorem set_takeP {ys ps : List (Int × Int)} {k : Nat} (hk : k < ps.length) (hl : ys.length = ps.length) (h : ys.take k = ps.take k) : (ys.set k (ps.getD k (0, 0))).take (k + 1) = ps.take (k + 1) := by
  rw [List.take_add_one, List.take_add_one, List.take_set_of_le (Nat.le_refl _), h, List.getElem?_set_self (by omega), List.getElem?_eq_getElem hk]
  simp [List.getD_eq_getElem?_getD, hk]
theorem szPartS_any (a : Option Addr) (n cap : Nat) (l : Int) (w : World) (hn : n ≤ maxLen) (h0 : 0 ≤ l) (h1 : l ≤ 1048576) :
    Calls Try.prog 67 #[.slice a n cap, .int .i64 l] w fun e w' => e = .returned (.int .i64 (left l n)) ∧ w = w' := by
  unfold maxLen at hn
  by_cases h : l < n
  · go_enter Try.func67, Try.ntmps67
    go_wp2
    go_ret
    exact ⟨ret_int (by unfold left; rw [if_pos h]), rfl⟩
  · go_enter Try.func67, Try.ntmps67
    go_wp2
    go_ret
    exact ⟨ret_int (by unfold left; rw [if_neg (by omega)]), rfl⟩
set_option maxHeartbeats 2000000 in
theorem toPartS_any (a : Option Addr) (cap : Nat) (ps : List (Int × Int)) (w : World) (hi : PInts w a ps) (hn : ps.length ≤ 1048576) :
    Calls Try.prog 69 #[.slice a ps.length cap] w fun e w' => e = .returned (.slice (some ⟨w.heap.size, 0, none⟩) ps.length ps.length) ∧
      OwnsP w' w.heap.size (.slice (some ⟨w.heap.size, 0, none⟩) ps.length ps.length) ps ∧ Below w.heap.size w w' := by
  obtain ⟨j0, hj0, hy0, hy1, hy2⟩ := info_parts info_part
  have HI := hide hi
  clear hi
  go_enter Try.func69, Try.ntmps69
  go_wp2_with (at_make; refine wpList_make_full _ rfl _ _ 72 rfl w.heap.size 80 j0 (.agg #[.int .i64 0, .int .i64 0]) 2 Try.underlying72 hj0 hy0 hy1 _ _ _ _ ps.length rfl rfl (by omega) (by omega) ?b2 ?b3 (Nat.le_refl _) ?_)
  case b2 => rw [hy2]; omega
  case b3 => unfold maxLen; omega
  intro w0 hown0 hgrow0
  have hown1 : w0.ownsRow w.heap.size 80 2 (.slice (some ⟨w.heap.size, 0, none⟩) ps.length ps.length) ps.length (pflat (List.replicate ps.length (0, 0))) := by rw [← madeParts]; exact hown0
  have hb0 : Below w.heap.size w w0 := (Below.refl _ _).grown hgrow0 (Nat.le_refl _) (fun k h => by cases h)
  clear hgrow0 hown0
  go_wp2
  go_loopw [4] (fun i wr => ∃ (k : Nat) (ys : List (Int × Int)), k ≤ ps.length ∧ i = .int .i64 k ∧ ys.length = ps.length ∧ ys.take k = ps.take k ∧
      wr.ownsRow w.heap.size 80 2 (.slice (some ⟨w.heap.size, 0, none⟩) ps.length ps.length) ps.length (pflat ys) ∧ Below w.heap.size w wr)
    (fun i _ => ps.length - (intOf i).toNat)
  case atStart => exact ⟨0, _, Nat.zero_le _, rfl, by simp, by simp, hown1, hb0⟩
  case round =>
    clear hown1 hb0
    obtain ⟨k, ys, hk, rfl, hl, ht, hown, hb⟩ := hrel
    have HL := hide hl
    have HT := hide ht
    clear hl ht
    by_cases hlt : k < ps.length
    · obtain ⟨b, off, rfl, hbl, hc⟩ := (HI.out.below hb) (by omega)
      obtain ⟨h1, h2⟩ := hc k hlt
      obtain ⟨pc, hpc⟩ : ∃ pc, pc = (ps.getD k (0, 0)).1 := ⟨_, rfl⟩
      obtain ⟨pb, hpb⟩ : ∃ pb, pb = (ps.getD k (0, 0)).2 := ⟨_, rfl⟩
      have HPP := hide (show ps.getD k (0, 0) = (pc, pb) from by rw [hpc, hpb])
      rw [← hpc] at h1
      rw [← hpb] at h2
      have hky : k < ys.length := by rw [HL.out]; exact hlt
      have HO := hide hown
      have HB := hide hb
      clear hc hpc hpb hown hb
      go_wp2_with fail
      refine (toPart_any _ _ _).mono ?_
      rintro e w5 ⟨rfl, b5⟩
      have hk5 : ∀ v, wr.ownsRow w.heap.size 80 2 v ps.length (pflat ys) → w5.ownsRow w.heap.size 80 2 v ps.length (pflat ys) := fun v h => World.ownsRow.kept (row := none) h ⟨b5.os, b5.tape, b5.output, b5.size, fun k hk _ => b5.block k hk⟩ (by rcases v.ownBlock with _ | g <;> simp)
      have hown5 := hk5 _ HO.out
      clear hk5
      have hst0 := hown5.cellAt (k * 2) (by omega)
      have hst1 := hown5.cellAt (k * 2 + 1) (by omega)
      obtain ⟨e0, e1⟩ := pflat_get ys k hky
      rw [e0] at hst0
      rw [e1] at hst1
      have hfz0 := hown5.frozenAt (k * 2)
      have hfz1 := hown5.frozenAt (k * 2 + 1)
      have HB5 := hide (bnext HB.out b5)
      clear e0 e1 b5
      go_wp2
      go_roundw
      case rel => exact ⟨k + 1, ys.set k (ps.getD k (0, 0)), by omega, by go_num, by rw [List.length_set]; exact HL.out, set_takeP hlt HL.out HT.out, by rw [HPP.out, pflat_set ys k _ _ hky]; exact ((hown5.stored (k * 2) _).1.stored (k * 2 + 1) _).1, (HB5.out.setCell (Nat.le_refl _) _).setCell (Nat.le_refl _) _⟩
      case measure => simp [intOf]; omega
    · obtain rfl : k = ps.length := by omega
      go_wp2
      go_ret
      have hys : ys = ps := by
        have := HT.out
        rw [List.take_of_length_le (by rw [HL.out]; exact Nat.le_refl _), List.take_of_length_le (Nat.le_refl _)] at this
        exact this
      exact ⟨rfl, by rw [← hys]; unfold OwnsP; rw [HL.out]; exact hown, hb⟩
end Go.Proofs.Ytklfpbidbiippaa
