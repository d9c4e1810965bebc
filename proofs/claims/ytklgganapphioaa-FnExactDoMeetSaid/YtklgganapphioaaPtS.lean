/- The laws' helpers on slices of parts: equality, marks. -/
import Derived.Test.YtklgganapphioaaOwnP
import Derived.Test.YtklgganapphioaaListLaw
namespace Go.Proofs.Ytklgganapphioaa
open Go.RowKit Go.Joins

theorem OwnsP.pints {w : World} {base n cap : Nat} {a : Option Addr} {ps : List (Int × Int)} (h : OwnsP w base (.slice a n cap) ps) : PInts w a ps := by
  obtain ⟨a', cap', e, hi⟩ := h.form
  simp only [Value.slice.injEq] at e
  obtain ⟨rfl, _, _⟩ := e
  exact hi
theorem pown_ge {w : World} {base : Nat} {v : Value} {ps : List (Int × Int)} (h : OwnsP w base v ps) : ∀ k, v.ownBlock = some k → base ≤ k ∧ k < w.heap.size := fun k hk => World.ownsRow.lt h k hk
theorem pown_kept {w w' : World} {base : Nat} {v : Value} {ps : List (Int × Int)} {row : Option Nat} (h : OwnsP w base v ps) (hg : w.grownBy w' row) (hne : ∀ k, row = some k → v.ownBlock ≠ some k) : OwnsP w' base v ps := by
  have h' : w.ownsRow base 52 2 v ps.length (pflat ps) := h
  refine World.ownsRow.kept h' hg ?_
  rcases hv : v.ownBlock with _ | g
  · exact .inl rfl
  · right
    intro e
    exact hne g e.symm hv
def pmarks (k : Int) (n : Nat) : List (Int × Int) := (List.range n).map fun (i : Nat) => (k + 2 * (i : Int), k + 2 * (i : Int) + 1)
theorem pmarks_length (k : Int) (n : Nat) : (pmarks k n).length = n := by simp [pmarks]
theorem pmarks_getD (k : Int) (n i : Nat) (h : i < n) : (pmarks k n).getD i (0, 0) = (k + 2 * (i : Int), k + 2 * (i : Int) + 1) := by
  simp [pmarks, List.getD_eq_getElem?_getD, h]
theorem parts_ext {xs ys : List (Int × Int)} (hl : xs.length = ys.length) (h : ∀ j, j < xs.length → xs.getD j (0, 0) = ys.getD j (0, 0)) : xs = ys := by
  refine List.ext_getElem hl fun i h1 h2 => ?_
  have := h i h1
  rwa [pgetD_lt h1, pgetD_lt h2] at this
theorem pflat_set : ∀ (ps : List (Int × Int)) (j : Nat) (c b : Int), j < ps.length → pflat (ps.set j (c, b)) = ((pflat ps).set (j * 2) (.int .i64 c)).set (j * 2 + 1) (.int .i64 b)
  | [], j, _, _, h => by simp at h
  | p :: ps, 0, c, b, _ => rfl
  | p :: ps, j + 1, c, b, h => by
    have ih := pflat_set ps j c b (by simpa using h)
    rw [List.set_cons_succ, pflat_cons, pflat_cons, ih, show (j + 1) * 2 = j * 2 + 1 + 1 from by omega]
    rfl

theorem eqPart_any (c b c' b' : Int) (w : World) : Calls Try.prog 71 #[.agg #[.int .i64 c, .int .i64 b], .agg #[.int .i64 c', .int .i64 b']] w fun e w' => e = .returned (.bool (decide ((c, b) = (c', b')))) ∧ Below w.heap.size w w' := by
  by_cases h1 : c = c'
  · subst h1
    have e1 : (c != c) = false := by simp
    by_cases h2 : b = b'
    · subst h2
      have e2 : (b != b) = false := by simp
      go_enter Try.func71, Try.ntmps71
      go_wp2
      go_ret
      exact ⟨ret_bool (by simp), bel2 w _ _⟩
    · have e2 : (b != b') = true := by simpa using h2
      have H2 := hide h2
      clear h2
      go_enter Try.func71, Try.ntmps71
      go_wp2
      go_ret
      exact ⟨ret_bool (by simp [H2.out]), bel2 w _ _⟩
  · have e1 : (c != c') = true := by simpa using h1
    have H1 := hide h1
    clear h1
    go_enter Try.func71, Try.ntmps71
    go_wp2
    go_ret
    exact ⟨ret_bool (by simp [H1.out]), bel2 w _ _⟩
theorem eqPart_same (c b : Int) (w : World) : Calls Try.prog 71 #[.agg #[.int .i64 c, .int .i64 b], .agg #[.int .i64 c, .int .i64 b]] w fun e w' => e = .returned (.bool true) ∧ Below w.heap.size w w' :=
  (eqPart_any c b c b w).mono fun _ _ ⟨he, hb⟩ => ⟨he.trans (ret_bool (by simp)), hb⟩
set_option maxHeartbeats 2000000 in
theorem eqPartS_yes (a b : Option Addr) (ca cb : Nat) (ps : List (Int × Int)) (w : World) (hx : PInts w a ps) (hy : PInts w b ps) (hn : ps.length ≤ 1048576) :
    Calls Try.prog 19 #[.slice a ps.length ca, .slice b ps.length cb] w fun e w' => e = .returned (.bool true) ∧ Below w.heap.size w w' := by
  have hne : ((ps.length : Int) != (ps.length : Int)) = false := by simp
  have HX := hide hx
  have HY := hide hy
  clear hx hy
  go_enter Try.func19, Try.ntmps19
  go_wp2
  go_loopw [5] (fun i wr => ∃ k : Nat, k ≤ ps.length ∧ i = .int .i64 k ∧ Below w.heap.size w wr) (fun i _ => ps.length - (intOf i).toNat)
  case atStart => exact ⟨0, Nat.zero_le _, rfl, Below.refl _ _⟩
  case round =>
    obtain ⟨k, hk, rfl, hb⟩ := hrel
    by_cases hlt : k < ps.length
    · obtain ⟨b1, o1, rfl, hb1, hc1⟩ := (HX.out.below hb) (by omega)
      obtain ⟨b2, o2, rfl, hb2, hc2⟩ := (HY.out.below hb) (by omega)
      obtain ⟨x1, x2⟩ := hc1 k hlt
      obtain ⟨y1, y2⟩ := hc2 k hlt
      obtain ⟨pc, hpc⟩ : ∃ pc, pc = (ps.getD k (0, 0)).1 := ⟨_, rfl⟩
      obtain ⟨pb, hpb⟩ : ∃ pb, pb = (ps.getD k (0, 0)).2 := ⟨_, rfl⟩
      rw [← hpc] at x1 y1
      rw [← hpb] at x2 y2
      clear hc1 hc2 hpc hpb
      go_wp2
      go_region_held3 (fun w' => w'.cell? ⟨b1, o1 + k * 2, none⟩ = some (.int .i64 pc) ∧ w'.cell? ⟨b1, o1 + k * 2 + 1, none⟩ = some (.int .i64 pb) ∧ w'.cell? ⟨b2, o2 + k * 2, none⟩ = some (.int .i64 pc) ∧ w'.cell? ⟨b2, o2 + k * 2 + 1, none⟩ = some (.int .i64 pb)) (first | go_keep | exact HK.out)
        ((go_at_call 71; refine (eqPart_same _ _ _).mono ?_; rintro e w5 ⟨rfl, b5⟩; have HK := hide (show w5.cell? ⟨b1, o1 + k * 2, none⟩ = some (.int .i64 pc) ∧ w5.cell? ⟨b1, o1 + k * 2 + 1, none⟩ = some (.int .i64 pb) ∧ w5.cell? ⟨b2, o2 + k * 2, none⟩ = some (.int .i64 pc) ∧ w5.cell? ⟨b2, o2 + k * 2 + 1, none⟩ = some (.int .i64 pb) from ⟨(b5.cell (p := ⟨b1, o1 + k * 2, none⟩) (World.block_lt_of_cell? _ _ (by assumption))).trans (by assumption), (b5.cell (p := ⟨b1, o1 + k * 2 + 1, none⟩) (World.block_lt_of_cell? _ _ (by assumption))).trans (by assumption), (b5.cell (p := ⟨b2, o2 + k * 2, none⟩) (World.block_lt_of_cell? _ _ (by assumption))).trans (by assumption), (b5.cell (p := ⟨b2, o2 + k * 2 + 1, none⟩) (World.block_lt_of_cell? _ _ (by assumption))).trans (by assumption)⟩)))
      all_goals
        go_wp2
        go_roundw
        case rel => exact ⟨k + 1, by omega, by go_num, bnext hb (bdrew b5)⟩
        case measure => simp only [intOf]; omega
    · obtain rfl : k = ps.length := by omega
      go_wp2
      go_ret
      exact ⟨rfl, hb⟩
set_option maxHeartbeats 2000000 in
theorem markPartS_any (v : Value) (ps : List (Int × Int)) (base : Nat) (k : Int) (w : World) (ho : OwnsP w base v ps) (hn : ps.length ≤ 1048576) (h0 : 0 ≤ k) (h1 : k ≤ 4194304) :
    Calls Try.prog 22 #[v, .int .i64 k] w fun e w' => e = .returned (.int .i64 (k + 2 * (ps.length : Int))) ∧ OwnsP w' base v (pmarks k ps.length) ∧ w.grownBy w' v.ownBlock := by
  have ho' : w.ownsRow base 52 2 v ps.length (pflat ps) := ho
  rcases ownsRow_forms ho' with ⟨rfl, h00⟩ | ⟨g, cap, rfl⟩
  · have hz : ps = [] := List.length_eq_zero_iff.1 h00
    subst hz
    go_enter Try.func22, Try.ntmps22
    go_wp2
    refine wp_loop_rounds 1 ?_
    rw [rounds_succ]
    go_wp2
    go_ret
    exact ⟨ret_int (by simp), ho, World.grownBy.refl _ _⟩
  · obtain ⟨n, hnn⟩ : ∃ n, n = ps.length := ⟨_, rfl⟩
    rw [← hnn] at ho' hn ⊢
    have HNN := hide hnn
    clear ho hnn
    go_enter Try.func22, Try.ntmps22
    go_wp2
    go_loopw [1, 5] (fun kk i wr => ∃ (j : Nat) (ys : List (Int × Int)), j ≤ n ∧ i = .int .i64 j ∧ kk = .int .i64 (k + 2 * (j : Int)) ∧ ys.length = n ∧ (∀ t, t < j → ys.getD t (0, 0) = (k + 2 * (t : Int), k + 2 * (t : Int) + 1)) ∧
        wr.ownsRow base 52 2 (.slice (some ⟨g, 0, none⟩) n cap) n (pflat ys) ∧ w.grownBy wr (some g))
      (fun _ i _ => n - (intOf i).toNat)
    case atStart => exact ⟨0, ps, by omega, rfl, by simp, HNN.out.symm, fun t ht => by omega, ho', World.grownBy.refl _ _⟩
    case round =>
      obtain ⟨j, ys, hj, rfl, rfl, hl, hall, hown, hg⟩ := hrel
      have HL := hide hl
      have HA := hide hall
      clear hl hall ho'
      by_cases hlt : j < n
      · have hjy : j < ys.length := by rw [HL.out]; exact hlt
        have hst0 := hown.cellAt (j * 2) (by omega)
        have hst1 := hown.cellAt (j * 2 + 1) (by omega)
        obtain ⟨e0, e1⟩ := pflat_get ys j hjy
        rw [e0] at hst0
        rw [e1] at hst1
        have hfz0 := hown.frozenAt (j * 2)
        have hfz1 := hown.frozenAt (j * 2 + 1)
        clear e0 e1
        go_wp2
        go_roundw
        case rel => exact ⟨j + 1, ys.set j (k + 2 * (j : Int), k + 2 * (j : Int) + 1), by omega, by go_num, by go_num, by rw [List.length_set]; exact HL.out, fun t ht => by
          rcases Nat.lt_or_ge t j with h | h
          · have := HA.out t h
            rw [List.getD_eq_getElem?_getD, List.getElem?_set_ne (by omega), ← List.getD_eq_getElem?_getD]; exact this
          · obtain rfl : t = j := by omega
            rw [List.getD_eq_getElem?_getD, List.getElem?_set_self hjy]; rfl, by rw [pflat_set ys j _ _ hjy]; exact ((hown.stored (j * 2) _).1.stored (j * 2 + 1) _).1, gtrans (gtrans hg (hown.stored (j * 2) _).2) ((hown.stored (j * 2) _).1.stored (j * 2 + 1) _).2⟩
        case measure => simp only [intOf]; omega
      · obtain rfl : j = n := by omega
        go_wp2
        go_ret
        refine ⟨rfl, ?_, hg⟩
        have he : ys = pmarks k j := parts_ext (by rw [HL.out, pmarks_length]) (fun t ht => by
          have h := HL.out
          rw [HA.out t (by omega), pmarks_getD k j t (by omega)])
        unfold OwnsP
        rw [pmarks_length, ← he]
        exact hown
set_option maxHeartbeats 2000000 in
theorem heldP_yes (a : Option Addr) (cap n : Nat) (k : Int) (w : World) (hi : PInts w a (pmarks k n)) (hn : n ≤ 1048576) (h0 : 0 ≤ k) (h1 : k ≤ 4194304) :
    Calls Try.prog 23 #[.slice a n cap, .int .i64 k] w fun e w' => e = .returned (.int .i64 (k + 2 * (n : Int))) ∧ Below w.heap.size w w' := by
  have HI := hide hi
  clear hi
  go_enter Try.func23, Try.ntmps23
  go_wp2
  go_loopw [1, 5] (fun kk i wr => ∃ j : Nat, j ≤ n ∧ i = .int .i64 j ∧ kk = .int .i64 (k + 2 * (j : Int)) ∧ Below w.heap.size w wr) (fun _ i _ => n - (intOf i).toNat)
  case atStart => exact ⟨0, Nat.zero_le _, rfl, by simp, Below.refl _ _⟩
  case round =>
    obtain ⟨j, hj, rfl, rfl, hb⟩ := hrel
    by_cases hlt : j < n
    · obtain ⟨b, off, rfl, hbl, hc⟩ := (HI.out.below hb) (by rw [pmarks_length]; omega)
      obtain ⟨x1, x2⟩ := hc j (by rw [pmarks_length]; exact hlt)
      rw [pmarks_getD k n j hlt] at x1 x2
      dsimp only at x1 x2
      clear hc
      go_wp2
      go_roundw
      case rel => exact ⟨j + 1, by omega, by go_num, by go_num, hb⟩
      case measure => simp only [intOf]; omega
    · obtain rfl : j = n := by omega
      go_wp2
      go_ret
      exact ⟨rfl, hb⟩
end Go.Proofs.Ytklgganapphioaa
