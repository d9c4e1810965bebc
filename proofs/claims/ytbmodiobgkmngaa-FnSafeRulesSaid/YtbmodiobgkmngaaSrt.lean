/- What slices.Sort and slices.Compact make of numbers, and of the block that holds them. Nothing of the program. -/
import Derived.Test.YtbmodiobgkmngaaSV
import Derived.Sort.OwnSortedInts
import Derived.Lib.SlicesCompact
namespace Go.Proofs.Ytbmodiobgkmngaa
open Go.RowKit Go.Joins Go.Sort

theorem ascZ_ext : ∀ (l l' : List Int), l.Pairwise (· < ·) → l'.Pairwise (· < ·) → (∀ x, x ∈ l ↔ x ∈ l') → l = l'
  | [], [], _, _, _ => rfl
  | [], b :: l', _, _, h => by have := (h b).2 (by simp); cases this
  | a :: l, [], _, _, h => by have := (h a).1 (by simp); cases this
  | a :: l, b :: l', h1, h2, h => by
    have h1' := List.pairwise_cons.1 h1
    have h2' := List.pairwise_cons.1 h2
    have hab : a = b := by
      have ha : a ∈ b :: l' := (h a).1 (by simp)
      have hb : b ∈ a :: l := (h b).2 (by simp)
      rcases List.mem_cons.1 ha with e | ha
      · exact e
      · rcases List.mem_cons.1 hb with e | hb
        · exact e.symm
        · have := h2'.1 a ha
          have := h1'.1 b hb
          omega
    subst hab
    rw [ascZ_ext l l' h1'.2 h2'.2 (fun x => ?_)]
    constructor
    · intro hx
      have := h1'.1 x hx
      rcases List.mem_cons.1 ((h x).1 (List.mem_cons_of_mem _ hx)) with e | e
      · omega
      · exact e
    · intro hx
      have := h2'.1 x hx
      rcases List.mem_cons.1 ((h x).2 (List.mem_cons_of_mem _ hx)) with e | e
      · omega
      · exact e
theorem comp_facts {d : Array Int} (hs : ∀ i j, i ≤ j → j < d.size → d[i]! ≤ d[j]!) : ∀ m, m ≤ d.size → (Lib.compactUpTo d m).Pairwise (· < ·) ∧ ∀ x, x ∈ Lib.compactUpTo d m ↔ ∃ j, j < m ∧ d[j]! = x
  | 0, _ => ⟨by simp [Lib.compactUpTo], fun x => by simp [Lib.compactUpTo]⟩
  | m + 1, hm => by
    obtain ⟨h1, h2⟩ := comp_facts hs m (by omega)
    rw [Lib.compactUpTo_succ]
    by_cases hk : Lib.keeps d m = true
    · rw [if_pos hk]
      refine ⟨?_, fun x => ?_⟩
      · rw [List.pairwise_append]
        refine ⟨h1, List.pairwise_singleton _ _, fun a ha b hb => ?_⟩
        obtain ⟨j, hj, rfl⟩ := (h2 a).1 ha
        rw [List.mem_singleton] at hb
        subst hb
        have hne : d[m]! ≠ d[m - 1]! := by
          unfold Lib.keeps at hk
          rw [decide_eq_true_iff] at hk
          rcases hk with e | e
          · omega
          · exact e
        have a1 := hs j (m - 1) (by omega) (by omega)
        have a2 := hs (m - 1) m (by omega) (by omega)
        omega
      · rw [List.mem_append, h2, List.mem_singleton]
        constructor
        · rintro (⟨j, hj, e⟩ | e)
          · exact ⟨j, by omega, e⟩
          · exact ⟨m, by omega, e.symm⟩
        · rintro ⟨j, hj, e⟩
          by_cases e2 : j = m
          · subst e2
            exact .inr e.symm
          · exact .inl ⟨j, by omega, e⟩
    · rw [if_neg hk, List.append_nil]
      refine ⟨h1, fun x => ?_⟩
      rw [h2]
      have hm0 : m ≠ 0 ∧ d[m]! = d[m - 1]! := by
        unfold Lib.keeps at hk
        rw [decide_eq_true_iff] at hk
        exact ⟨fun e => hk (.inl e), Classical.byContradiction fun e => hk (.inr e)⟩
      constructor
      · rintro ⟨j, hj, e⟩
        exact ⟨j, by omega, e⟩
      · rintro ⟨j, hj, e⟩
        by_cases e2 : j = m
        · subst e2
          exact ⟨j - 1, by omega, by rw [← hm0.2]; exact e⟩
        · exact ⟨j, by omega, e⟩
/-- a list in order -/
def srt (l : List Int) : List Int := l.mergeSort fun x y => decide (x ≤ y)
theorem srt_perm (l : List Int) : (srt l).Perm l := List.mergeSort_perm _ _
theorem srt_len (l : List Int) : (srt l).length = l.length := (srt_perm l).length_eq
theorem srt_sorted (l : List Int) : (srt l).Pairwise (· ≤ ·) := by
  have h : (srt l).Pairwise (fun x y => decide (x ≤ y) = true) := by
    unfold srt
    exact List.pairwise_mergeSort (fun a b c h1 h2 => by simp at h1 h2 ⊢; omega) (fun a b => by simp; omega) l
  exact h.imp fun h => by simpa using h
/-- a list in order, each number once -/
def unq (l : List Int) : List Int := Lib.compact (srt l)
theorem srt_at (l : List Int) {i j : Nat} (hij : i ≤ j) (hj : j < (srt l).toArray.size) : (srt l).toArray[i]! ≤ (srt l).toArray[j]! := by
  have hj' : j < (srt l).length := by simpa using hj
  rw [getElem!_pos _ i (by simp; omega), getElem!_pos _ j hj]
  simp only [List.getElem_toArray]
  rcases Nat.eq_or_lt_of_le hij with e | e
  · subst e
    exact Int.le_refl _
  · exact List.pairwise_iff_getElem.1 (srt_sorted l) i j (by omega) hj' e
theorem unq_facts (l : List Int) : (unq l).Pairwise (· < ·) ∧ ∀ x, x ∈ unq l ↔ x ∈ l := by
  obtain ⟨h1, h2⟩ := comp_facts (d := (srt l).toArray) (fun i j h h' => srt_at l h h') (srt l).length (by simp)
  refine ⟨h1, fun x => ?_⟩
  rw [← (srt_perm l).mem_iff]
  refine (h2 x).trans ?_
  constructor
  · rintro ⟨j, hj, e⟩
    rw [getElem!_pos _ j (by simpa using hj)] at e
    rw [← e]
    simp
  · intro hx
    obtain ⟨j, hj, e⟩ := List.getElem_of_mem hx
    exact ⟨j, hj, by rw [getElem!_pos _ j (by simpa using hj)]; simpa using e⟩
theorem unq_len (l : List Int) : (unq l).length ≤ l.length := by
  have h : (unq l).length ≤ (srt l).length := by
    unfold unq Lib.compact Lib.compactUpTo
    rw [List.length_map]
    refine Nat.le_trans (List.length_filter_le _ _) ?_
    simp
  rw [srt_len] at h
  exact h
/-- what is ascending and has the same numbers is it -/
theorem unq_eq {l l' : List Int} (h : l'.Pairwise (· < ·)) (hm : ∀ x, x ∈ l' ↔ x ∈ l) : unq l = l' :=
  ascZ_ext _ _ (unq_facts l).1 h fun x => ((unq_facts l).2 x).trans (hm x).symm

/-! ### in memory -/
theorem put_cells (ts : List Int) (cur : Array Value) (h : cur.size = ts.length) : putCells (Value.int .i64) 0 ts.toArray cur = (ts.map (Value.int .i64)).toArray := by
  apply Array.ext_getElem?
  intro k
  by_cases hk : k < ts.length
  · simp [putCells, hk, show k < cur.size by omega]
  · simp [putCells, hk, show ¬ k < cur.size by omega]
theorem blk_sorted {w : World} {g n : Nat} {os : Array Obj} {xs ts : List Int} {e : TypeId} (hl : ts.length = xs.length) (hb : w.heap[g]? = some (.cells (xs.map (Value.int .i64)).toArray e (0, 0))) :
    (grow (putRow (Value.int .i64) (Go.Sort.ahead w n) g 0 ts.toArray) os).heap[g]? = some (.cells (ts.map (Value.int .i64)).toArray e (0, 0)) := by
  rw [heap_sortedI _ hb, put_cells]
  simp [hl]
theorem grow_nil (w : World) : grow w #[] = w := by simp [grow]
theorem blk_put {w : World} {g n : Nat} {xs ts : List Int} {e : TypeId} (hl : ts.length = xs.length) (hb : w.heap[g]? = some (.cells (xs.map (Value.int .i64)).toArray e (0, 0))) :
    (putRow (Value.int .i64) (Go.Sort.ahead w n) g 0 ts.toArray).heap[g]? = some (.cells (ts.map (Value.int .i64)).toArray e (0, 0)) := by
  have h := blk_sorted (n := n) (os := #[]) hl hb
  rwa [grow_nil] at h
theorem grown_put {w : World} {g n : Nat} (d : Array Int) : w.grownBy (putRow (Value.int .i64) (Go.Sort.ahead w n) g 0 d) (some g) := by
  have h := grownBy_sortedI (w := w) (g := g) (n := n) (os := #[]) d
  rwa [grow_nil] at h
theorem holds_blk {w : World} {g : Nat} {xs : List Int} {e : TypeId} (hb : w.heap[g]? = some (.cells (xs.map (Value.int .i64)).toArray e (0, 0))) : Holds (Value.int .i64) w g 0 xs.toArray :=
  holds_of_blockI hb (by simp; exact List.take_of_length_le (by simp))
theorem own_cut {w : World} {base g : Nat} {ys zz : List Int} (hb : w.heap[g]? = some (.cells ((ys ++ zz).map (Value.int .i64)).toArray 3 (0, 0))) (hbase : base ≤ g) (hm : (ys ++ zz).length ≤ maxLen) :
    Owns w base (.slice (some ⟨g, 0, none⟩) ys.length (ys ++ zz).length) ys := by
  refine ⟨by simp, .inr ⟨g, _, _, rfl, hbase, hb, by simp, hm, by simp, ?_⟩⟩
  simp
end Go.Proofs.Ytbmodiobgkmngaa
