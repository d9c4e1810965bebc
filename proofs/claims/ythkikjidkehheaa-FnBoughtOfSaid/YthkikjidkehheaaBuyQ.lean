/- The sort of purses: rows of three cells, and the numbers above in order. -/
import Derived.Test.YthkikjidkehheaaShelf
import Derived.Test.YthkikjidkehheaaLoadL
import Derived.Test.YthkikjidkehheaaBuyM
namespace Go.Proofs.Ythkikjidkehheaa
open Go.RowKit Go.Joins Go.Sort

abbrev PF := Fin 100001 × Int × Int
def encF (p : PF) : List Value := [.int .i64 (p.1.val : Int), .int .i64 p.2.1, .int .i64 p.2.2]
def inF (p : Pur) : PF := (⟨min p.1.toNat 100000, Nat.lt_succ_of_le (Nat.min_le_right _ _)⟩, p.2.1, p.2.2)
def ouF (p : PF) : Pur := ((p.1.val : Int), p.2.1, p.2.2)
def cfF (x y : PF) : Int := (x.1.val : Int) - (y.1.val : Int)
theorem ltF {x y : PF} : ltOf cfF x y = decide (x.1.val < y.1.val) := by
  unfold ltOf cfF
  by_cases h : x.1.val < y.1.val
  · rw [decide_eq_true h, decide_eq_true (by omega)]
  · rw [decide_eq_false h, decide_eq_false (by omega)]
theorem swoF : SWO (ltOf cfF) := by
  refine ⟨fun x => ?_, fun x y z => ?_, fun x y z => ?_⟩
  · rw [ltF]; exact decide_eq_false (Nat.lt_irrefl _)
  · rw [ltF, ltF, ltF]; simp only [decide_eq_true_eq]; omega
  · rw [ltF, ltF, ltF]; simp only [decide_eq_false_iff_not]; omega
theorem enc_in {p : Pur} (h : 0 ≤ p.1 ∧ p.1 ≤ 100000) : encF (inF p) = [.int .i64 p.1, .int .i64 p.2.1, .int .i64 p.2.2] := by
  unfold encF inF
  simp only
  rw [show ((min p.1.toNat 100000 : Nat) : Int) = p.1 from by omega]
theorem flatF (d : Array PF) : ∀ j, j < d.size * 3 → (qflat (d.toList.map ouF))[j]? = some ((flatK encF 3 d)[j]!) := by
  intro j hj
  rw [get_flatK encF 3 d j hj]
  have hk : j / 3 < d.size := by omega
  have hk2 : j / 3 < (d.toList.map ouF).length := by simpa using hk
  obtain ⟨e1, e2, e3⟩ := qflat_get (d.toList.map ouF) (j / 3) hk2
  rw [qgetD_lt hk2] at e1 e2 e3
  simp only [List.getElem_map, Array.getElem_toList] at e1 e2 e3
  rw [getElem!_pos d (j / 3) hk]
  have h3 : j = j / 3 * 3 + j % 3 := by omega
  have h4 : j % 3 < 3 := by omega
  obtain ⟨x, hx⟩ : ∃ x, d[j / 3] = x := ⟨_, rfl⟩
  rw [hx] at e1 e2 e3 ⊢
  obtain ⟨r, hr⟩ : ∃ r, j % 3 = r := ⟨_, rfl⟩
  rw [hr] at h3 h4 ⊢
  rcases r with _ | _ | _ | r
  · rw [← h3.trans (Nat.add_zero _)] at e1
    exact e1
  · rw [← h3] at e2
    exact e2
  · rw [← h3] at e3
    exact e3
  · omega
theorem ou_map {ps : List Pur} (hb : ∀ p ∈ ps, 0 ≤ p.1 ∧ p.1 ≤ 100000) : (ps.map inF).map ouF = ps := by
  rw [List.map_map]
  refine (List.map_congr_left fun p hp => ?_).trans (List.map_id ps)
  have h := hb p hp
  show (((min p.1.toNat 100000 : Nat) : Int), p.2.1, p.2.2) = p
  rw [show ((min p.1.toNat 100000 : Nat) : Int) = p.1 from by omega]
theorem holdsF {w : World} {base g cap : Nat} {ps : List Pur} (h : w.ownsRow base 47 3 (.slice (some ⟨g, 0, none⟩) ps.length cap) ps.length (qflat ps)) (hb : ∀ p ∈ ps, 0 ≤ p.1 ∧ p.1 ≤ 100000) : HoldsK encF 3 w g 0 (ps.map inF).toArray := by
  intro j hj
  rw [size_flatK] at hj
  have hz : (ps.map inF).toArray.size = ps.length := by simp
  have e := flatF (ps.map inF).toArray j hj
  rw [List.toList_toArray, ou_map hb] at e
  refine ⟨?_, ?_⟩
  · rw [Nat.zero_add, h.cellAt j (by omega), e]; rfl
  · rw [Nat.zero_add]; exact h.frozenAt j
theorem qintsF {w : World} {g : Nat} {d : Array PF} (hg : g < w.heap.size) (h : HoldsK encF 3 w g 0 d) : QInts w (some ⟨g, 0, none⟩) (d.toList.map ouF) := by
  intro _
  refine ⟨g, 0, rfl, hg, fun k hk => ?_⟩
  have hk2 : k < d.size := by simpa using hk
  obtain ⟨e1, e2, e3⟩ := qflat_get (d.toList.map ouF) k hk
  have c : ∀ j, j < d.size * 3 → w.cell? ⟨g, 0 + j, none⟩ = (qflat (d.toList.map ouF))[j]? := fun j hj => by
    rw [flatF d j hj]
    exact (h j (by rw [size_flatK]; exact hj)).1
  rw [Nat.add_assoc, Nat.add_assoc, c _ (by omega), c _ (by omega), c _ (by omega)]
  exact ⟨e1, e2, e3⟩
theorem grownF {w : World} {g n : Nat} {dk : Array PF} {os : Array Obj} : w.grownBy (sortWorldK encF 3 w g 0 n dk os) (some g) := by
  refine ⟨rfl, rfl, rfl, ?_, fun k hk hne => ?_⟩
  · unfold sortWorldK putRowK
    rw [size_grow, size_putRow]
    exact Nat.le_add_right _ _
  · have hkg : ¬ g = k := fun e => hne (by rw [e])
    unfold sortWorldK putRowK putRow mapBlock grow
    simp only [Array.getElem?_append, Array.size_modify, Array.getElem?_modify]
    rw [if_pos (by show k < w.heap.size; omega), if_neg hkg]
    rfl
/-- put in order -/
theorem insN_perm (v : Nat) : ∀ l : List Nat, (insN v l).Perm (v :: l)
  | [] => .refl _
  | y :: ys => by
    unfold insN
    split
    · exact ((insN_perm v ys).cons y).trans (.swap _ _ _)
    · exact .refl _
theorem srt_perm : ∀ l : List Nat, (srtN l).Perm l := by
  intro l
  suffices h : ∀ (l acc : List Nat), (l.foldl (fun acc v => insN v acc) acc).Perm (l ++ acc) by
    have h1 := h l []
    rw [List.append_nil] at h1
    exact h1
  intro l
  induction l with
  | nil => intro acc; exact .refl _
  | cons v l ih =>
    intro acc
    refine (ih (insN v acc)).trans ?_
    exact ((insN_perm v acc).append_left l).trans (List.perm_middle)
theorem insN_ord (v : Nat) : ∀ l : List Nat, l.Pairwise (· ≤ ·) → (insN v l).Pairwise (· ≤ ·)
  | [], _ => by simp [insN]
  | y :: ys, h => by
    rw [List.pairwise_cons] at h
    unfold insN
    split
    · rename_i hy
      rw [List.pairwise_cons]
      refine ⟨fun z hz => ?_, insN_ord v ys h.2⟩
      rcases insN_mem ys hz with rfl | hz
      · exact hy
      · exact h.1 z hz
    · rename_i hy
      rw [List.pairwise_cons]
      refine ⟨fun z hz => ?_, List.pairwise_cons.2 h⟩
      rcases List.mem_cons.1 hz with rfl | hz
      · omega
      · have := h.1 z hz; omega
theorem srt_ord (l : List Nat) : (srtN l).Pairwise (· ≤ ·) := by
  suffices h : ∀ (l acc : List Nat), acc.Pairwise (· ≤ ·) → (l.foldl (fun acc v => insN v acc) acc).Pairwise (· ≤ ·) from h l [] .nil
  intro l
  induction l with
  | nil => intro acc h; exact h
  | cons v l ih => intro acc h; exact ih _ (insN_ord v acc h)
theorem ord_unique : ∀ (l m : List Nat), l.Perm m → l.Pairwise (· ≤ ·) → m.Pairwise (· ≤ ·) → l = m
  | [], m, h, _, _ => (List.nil_perm.1 h).symm
  | x :: l, [], h, _, _ => by have := h.length_eq; simp at this
  | x :: l, y :: m, h, h1, h2 => by
    rw [List.pairwise_cons] at h1 h2
    have hx : x ∈ y :: m := h.mem_iff.1 (by simp)
    have hy : y ∈ x :: l := h.mem_iff.2 (by simp)
    have e : x = y := by
      rcases List.mem_cons.1 hx with e | hx
      · exact e
      · rcases List.mem_cons.1 hy with e | hy
        · exact e.symm
        · have := h1.1 y hy; have := h2.1 x hx; omega
    subst e
    rw [ord_unique l m (List.Perm.cons_inv h) h1.2 h2.2]
/-- the numbers above -/
def topsQ (ps : List Pur) : List Nat := ps.map fun p => p.1.toNat
theorem topsF {ps : List Pur} {d' : Array PF} (hb : ∀ p ∈ ps, 0 ≤ p.1 ∧ p.1 ≤ 100000) (hp : PermIn 0 (ps.map inF).toArray.size (ps.map inF).toArray d') (hs : SortedIn (ltOf cfF) 0 (ps.map inF).toArray.size d') :
    topsQ (d'.toList.map ouF) = srtN (topsQ ps) ∧ (d'.toList.map ouF).Perm ps := by
  obtain ⟨h1, _, h3⟩ := hp
  have hz : (ps.map inF).toArray.size = ps.length := by simp
  rw [hz] at h1 h3 hs
  have e1 : (d'.extract 0 ps.length).toList = d'.toList := by rw [← h1]; simp
  have e2 : ((ps.map inF).toArray.extract 0 ps.length).toList = ps.map inF := by
    have : (ps.map inF).toArray.extract 0 ps.length = (ps.map inF).toArray := by
      rw [← hz]; exact Array.extract_size
    rw [this]
  rw [e1, e2] at h3
  have hpm : (d'.toList.map ouF).Perm ps := by
    have := h3.map ouF
    rw [ou_map hb] at this
    exact this
  refine ⟨ord_unique _ _ ((hpm.map _).trans (srt_perm _).symm) ?_ (srt_ord _), hpm⟩
  unfold topsQ
  rw [List.map_map, List.pairwise_map]
  rw [List.pairwise_iff_getElem]
  intro i j hi hj hij
  have h5 := hs i j (Nat.zero_le _) hij (by simpa [h1] using hj)
  rw [ltF] at h5
  have h6 := of_decide_eq_false h5
  rw [getElem!_pos d' i (by simpa using hi), getElem!_pos d' j (by simpa using hj)] at h6
  simp only [Function.comp, ouF, Array.getElem_toList, Int.toNat_natCast]
  omega
end Go.Proofs.Ythkikjidkehheaa
