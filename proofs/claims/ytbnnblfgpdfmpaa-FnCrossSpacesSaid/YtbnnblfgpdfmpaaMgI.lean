/- Texts of this seat one behind the other: Srt, Flp, FlM, Spc, FlpI. Conditions: none. -/
import Derived.Test.YtbnnblfgpdfmpaaSV
import Derived.Test.YtbnnblfgpdfmpaaHas
import Derived.Test.YtbnnblfgpdfmpaaBit
import Derived.Test.YtbnnblfgpdfmpaaMgH
import Derived.Test.YtbnnblfgpdfmpaaShelf
import Derived.Test.YtbnnblfgpdfmpaaSp
import Derived.Test.YtbnnblfgpdfmpaaLaws
import Derived.Sort.OwnSortedInts
import Derived.Lib.SlicesCompact
import Derived.Deep.RegionHeld3

/- Srt: What slices.Sort and slices.Compact make of numbers, and of the block that holds them. Nothing of the program. -/
namespace Go.Proofs.Ytbnnblfgpdfmpaa
open Go.RowKit Go.Joins Go.Sort

theorem ascZ_ext : ∀ (l l' : List Int), l.Pairwise (· < ·) → l'.Pairwise (· < ·) → (∀ x, x ∈ l ↔ x ∈ l') → l = l'
  | [], [], _, _, _ => rfl
  | [], b :: l', _, _, h => by have := (h b).2 (by simp); cases this
  | a :: l, [], _, _, h => by have := (h a).1 (by simp); cases this
  | a :: l, b :: l', h1, h2, h => by
    have h1' := List.pairwise_cons.1 h1
    have h2' := List.pairwise_cons.1 h2
    have hab : a = b := by
      have ha : a ∈ b :: l' := (h a).1 (by simp)
      have hb : b ∈ a :: l := (h b).2 (by simp)
      rcases List.mem_cons.1 ha with e | ha
      · exact e
      · rcases List.mem_cons.1 hb with e | hb
        · exact e.symm
        · have := h2'.1 a ha
          have := h1'.1 b hb
          omega
    subst hab
    rw [ascZ_ext l l' h1'.2 h2'.2 (fun x => ?_)]
    constructor
    · intro hx
      have := h1'.1 x hx
      rcases List.mem_cons.1 ((h x).1 (List.mem_cons_of_mem _ hx)) with e | e
      · omega
      · exact e
    · intro hx
      have := h2'.1 x hx
      rcases List.mem_cons.1 ((h x).2 (List.mem_cons_of_mem _ hx)) with e | e
      · omega
      · exact e
theorem comp_facts {d : Array Int} (hs : ∀ i j, i ≤ j → j < d.size → d[i]! ≤ d[j]!) : ∀ m, m ≤ d.size → (Lib.compactUpTo d m).Pairwise (· < ·) ∧ ∀ x, x ∈ Lib.compactUpTo d m ↔ ∃ j, j < m ∧ d[j]! = x
  | 0, _ => ⟨by simp [Lib.compactUpTo], fun x => by simp [Lib.compactUpTo]⟩
  | m + 1, hm => by
    obtain ⟨h1, h2⟩ := comp_facts hs m (by omega)
    rw [Lib.compactUpTo_succ]
    by_cases hk : Lib.keeps d m = true
    · rw [if_pos hk]
      refine ⟨?_, fun x => ?_⟩
      · rw [List.pairwise_append]
        refine ⟨h1, List.pairwise_singleton _ _, fun a ha b hb => ?_⟩
        obtain ⟨j, hj, rfl⟩ := (h2 a).1 ha
        rw [List.mem_singleton] at hb
        subst hb
        have hne : d[m]! ≠ d[m - 1]! := by
          unfold Lib.keeps at hk
          rw [decide_eq_true_iff] at hk
          rcases hk with e | e
          · omega
          · exact e
        have a1 := hs j (m - 1) (by omega) (by omega)
        have a2 := hs (m - 1) m (by omega) (by omega)
        omega
      · rw [List.mem_append, h2, List.mem_singleton]
        constructor
        · rintro (⟨j, hj, e⟩ | e)
          · exact ⟨j, by omega, e⟩
          · exact ⟨m, by omega, e.symm⟩
        · rintro ⟨j, hj, e⟩
          by_cases e2 : j = m
          · subst e2
            exact .inr e.symm
          · exact .inl ⟨j, by omega, e⟩
    · rw [if_neg hk, List.append_nil]
      refine ⟨h1, fun x => ?_⟩
      rw [h2]
      have hm0 : m ≠ 0 ∧ d[m]! = d[m - 1]! := by
        unfold Lib.keeps at hk
        rw [decide_eq_true_iff] at hk
        exact ⟨fun e => hk (.inl e), Classical.byContradiction fun e => hk (.inr e)⟩
      constructor
      · rintro ⟨j, hj, e⟩
        exact ⟨j, by omega, e⟩
      · rintro ⟨j, hj, e⟩
        by_cases e2 : j = m
        · subst e2
          exact ⟨j - 1, by omega, by rw [← hm0.2]; exact e⟩
        · exact ⟨j, by omega, e⟩
/-- a list in order -/
def srt (l : List Int) : List Int := l.mergeSort fun x y => decide (x ≤ y)
theorem srt_perm (l : List Int) : (srt l).Perm l := List.mergeSort_perm _ _
theorem srt_len (l : List Int) : (srt l).length = l.length := (srt_perm l).length_eq
theorem srt_sorted (l : List Int) : (srt l).Pairwise (· ≤ ·) := by
  have h : (srt l).Pairwise (fun x y => decide (x ≤ y) = true) := by
    unfold srt
    exact List.pairwise_mergeSort (fun a b c h1 h2 => by simp at h1 h2 ⊢; omega) (fun a b => by simp; omega) l
  exact h.imp fun h => by simpa using h
/-- a list in order, each number once -/
def unq (l : List Int) : List Int := Lib.compact (srt l)
theorem srt_at (l : List Int) {i j : Nat} (hij : i ≤ j) (hj : j < (srt l).toArray.size) : (srt l).toArray[i]! ≤ (srt l).toArray[j]! := by
  have hj' : j < (srt l).length := by simpa using hj
  rw [getElem!_pos _ i (by simp; omega), getElem!_pos _ j hj]
  simp only [List.getElem_toArray]
  rcases Nat.eq_or_lt_of_le hij with e | e
  · subst e
    exact Int.le_refl _
  · exact List.pairwise_iff_getElem.1 (srt_sorted l) i j (by omega) hj' e
theorem unq_facts (l : List Int) : (unq l).Pairwise (· < ·) ∧ ∀ x, x ∈ unq l ↔ x ∈ l := by
  obtain ⟨h1, h2⟩ := comp_facts (d := (srt l).toArray) (fun i j h h' => srt_at l h h') (srt l).length (by simp)
  refine ⟨h1, fun x => ?_⟩
  rw [← (srt_perm l).mem_iff]
  refine (h2 x).trans ?_
  constructor
  · rintro ⟨j, hj, e⟩
    rw [getElem!_pos _ j (by simpa using hj)] at e
    rw [← e]
    simp
  · intro hx
    obtain ⟨j, hj, e⟩ := List.getElem_of_mem hx
    exact ⟨j, hj, by rw [getElem!_pos _ j (by simpa using hj)]; simpa using e⟩
theorem unq_len (l : List Int) : (unq l).length ≤ l.length := by
  have h : (unq l).length ≤ (srt l).length := by
    unfold unq Lib.compact Lib.compactUpTo
    rw [List.length_map]
    refine Nat.le_trans (List.length_filter_le _ _) ?_
    simp
  rw [srt_len] at h
  exact h
/-- what is ascending and has the same numbers is it -/
theorem unq_eq {l l' : List Int} (h : l'.Pairwise (· < ·)) (hm : ∀ x, x ∈ l' ↔ x ∈ l) : unq l = l' :=
  ascZ_ext _ _ (unq_facts l).1 h fun x => ((unq_facts l).2 x).trans (hm x).symm

/-! ### in memory -/
theorem put_cells (ts : List Int) (cur : Array Value) (h : cur.size = ts.length) : putCells (Value.int .i64) 0 ts.toArray cur = (ts.map (Value.int .i64)).toArray := by
  apply Array.ext_getElem?
  intro k
  by_cases hk : k < ts.length
  · simp [putCells, hk, show k < cur.size by omega]
  · simp [putCells, hk, show ¬ k < cur.size by omega]
theorem blk_sorted {w : World} {g n : Nat} {os : Array Obj} {xs ts : List Int} {e : TypeId} (hl : ts.length = xs.length) (hb : w.heap[g]? = some (.cells (xs.map (Value.int .i64)).toArray e (0, 0))) :
    (grow (putRow (Value.int .i64) (Go.Sort.ahead w n) g 0 ts.toArray) os).heap[g]? = some (.cells (ts.map (Value.int .i64)).toArray e (0, 0)) := by
  rw [heap_sortedI _ hb, put_cells]
  simp [hl]
theorem grow_nil (w : World) : grow w #[] = w := by simp [grow]
theorem blk_put {w : World} {g n : Nat} {xs ts : List Int} {e : TypeId} (hl : ts.length = xs.length) (hb : w.heap[g]? = some (.cells (xs.map (Value.int .i64)).toArray e (0, 0))) :
    (putRow (Value.int .i64) (Go.Sort.ahead w n) g 0 ts.toArray).heap[g]? = some (.cells (ts.map (Value.int .i64)).toArray e (0, 0)) := by
  have h := blk_sorted (n := n) (os := #[]) hl hb
  rwa [grow_nil] at h
theorem grown_put {w : World} {g n : Nat} (d : Array Int) : w.grownBy (putRow (Value.int .i64) (Go.Sort.ahead w n) g 0 d) (some g) := by
  have h := grownBy_sortedI (w := w) (g := g) (n := n) (os := #[]) d
  rwa [grow_nil] at h
theorem holds_blk {w : World} {g : Nat} {xs : List Int} {e : TypeId} (hb : w.heap[g]? = some (.cells (xs.map (Value.int .i64)).toArray e (0, 0))) : Holds (Value.int .i64) w g 0 xs.toArray :=
  holds_of_blockI hb (by simp; exact List.take_of_length_le (by simp))
theorem own_cut {w : World} {base g : Nat} {ys zz : List Int} (hb : w.heap[g]? = some (.cells ((ys ++ zz).map (Value.int .i64)).toArray 3 (0, 0))) (hbase : base ≤ g) (hm : (ys ++ zz).length ≤ maxLen) :
    Owns w base (.slice (some ⟨g, 0, none⟩) ys.length (ys ++ zz).length) ys := by
  refine ⟨by simp, .inr ⟨g, _, _, rfl, hbase, hb, by simp, hm, by simp, ?_⟩⟩
  simp
end Go.Proofs.Ytbnnblfgpdfmpaa

/- Flp: Issues flipped and dropped: plain mathematics. -/
namespace Go.Proofs.Ytbnnblfgpdfmpaa
open Go.RowKit Go.Joins

/-- the numbers below t with something, ascending -/
def pkK (p : Nat → Bool) (t : Nat) : List Int := ((List.range t).filter p).map fun (x : Nat) => (x : Int)
theorem pkK_yes {p : Nat → Bool} {t : Nat} (h : p t = true) : pkK p (t + 1) = pkK p t ++ [(t : Int)] := by
  unfold pkK; rw [List.range_succ, List.filter_append, List.map_append]; simp [h]
theorem pkK_no {p : Nat → Bool} {t : Nat} (h : p t = false) : pkK p (t + 1) = pkK p t := by
  unfold pkK; rw [List.range_succ, List.filter_append, List.map_append]; simp [h]
theorem pkK_len (p : Nat → Bool) (t : Nat) : (pkK p t).length ≤ t := by
  unfold pkK
  rw [List.length_map]
  refine Nat.le_trans (List.length_filter_le _ _) ?_
  simp
theorem pkK_asc (p : Nat → Bool) (t : Nat) : (pkK p t).Pairwise (· < ·) := by
  unfold pkK
  rw [List.pairwise_map]
  exact ((List.pairwise_lt_range).filter p).imp fun h => by omega
theorem pkK_mem {p : Nat → Bool} {t : Nat} {x : Int} : x ∈ pkK p t ↔ ∃ u : Nat, u < t ∧ p u = true ∧ (u : Int) = x := by
  unfold pkK
  rw [List.mem_map]
  constructor
  · rintro ⟨u, hu, e⟩
    rw [List.mem_filter, List.mem_range] at hu
    exact ⟨u, hu.1, hu.2, e⟩
  · rintro ⟨u, h1, h2, e⟩
    exact ⟨u, List.mem_filter.2 ⟨List.mem_range.2 h1, h2⟩, e⟩
theorem unq_pk {f : Int → Int} {zs : List Int} {p : Nat → Bool} {t : Nat} (h1 : ∀ z ∈ zs, ∃ u : Nat, u < t ∧ p u = true ∧ (u : Int) = f z) (h2 : ∀ u : Nat, u < t → p u = true → ∃ z ∈ zs, f z = (u : Int)) : unq (zs.map f) = pkK p t := by
  refine unq_eq (pkK_asc p t) fun x => ?_
  rw [pkK_mem, List.mem_map]
  constructor
  · rintro ⟨u, a, b, rfl⟩
    exact h2 u a b
  · rintro ⟨z, hz, rfl⟩
    exact h1 z hz
theorem hasZ_iff {zs : List Int} {x : Int} : hasB zs x = true ↔ x ∈ zs := by unfold hasB; exact decide_eq_true_iff
/-- whether a space is valid and has an issue -/
def hiB (n : Int) (zs : List Int) (j : Int) : Bool := vsB n zs && (decide (0 ≤ j) && decide (j < n))
theorem hiB_iff {n j : Int} {zs : List Int} : hiB n zs j = true ↔ vsB n zs = true ∧ 0 ≤ j ∧ j < n := by
  unfold hiB
  rw [Bool.and_eq_true, Bool.and_eq_true, decide_eq_true_iff, decide_eq_true_iff]

/-! ### flipped -/
def flipI (j : Nat) (x : Int) : Int := ((x.toNat ^^^ 2 ^ j : Nat) : Int)
def flP (zs : List Int) (j u : Nat) : Bool := hasB zs ((u ^^^ 2 ^ j : Nat) : Int)
theorem flip_pk {N j : Nat} {zs : List Int} (hV : Valid (N : Int) zs) (hj : j < N) : unq (zs.map (flipI j)) = pkK (flP zs j) (2 ^ N) := by
  have h2 : 2 ^ j < 2 ^ N := Nat.pow_lt_pow_right (by omega) hj
  refine unq_pk (fun z hz => ?_) fun u hu hp => ?_
  · have h1 := valid_lt hV hz
    refine ⟨z.toNat ^^^ 2 ^ j, Nat.xor_lt_two_pow h1.2 h2, ?_, rfl⟩
    unfold flP
    rw [hasZ_iff, Nat.xor_assoc, Nat.xor_self, Nat.xor_zero, Int.toNat_of_nonneg h1.1]
    exact hz
  · unfold flP at hp
    rw [hasZ_iff] at hp
    refine ⟨_, hp, ?_⟩
    unfold flipI
    rw [Int.toNat_natCast, Nat.xor_assoc, Nat.xor_self, Nat.xor_zero]
/-- what FlipIssue gives -/
def fpN (n : Int) (zs : List Int) (j : Int) : Int := if hiB n zs j = true then n else 0
def fpL (n : Int) (zs : List Int) (j : Int) : List Int := if hiB n zs j = true then unq (zs.map (flipI j.toNat)) else []

/-! ### dropped -/
def dropN (j x : Nat) : Nat := x % 2 ^ j + 2 ^ j * (x / 2 ^ (j + 1))
def dropI (j : Nat) (x : Int) : Int := ((dropN j x.toNat : Nat) : Int)
def wideN (j u : Nat) : Nat := u % 2 ^ j + (u - u % 2 ^ j) * 2
def dpP (zs : List Int) (j u : Nat) : Bool := hasB zs ((wideN j u : Nat) : Int) || hasB zs ((wideN j u + 2 ^ j : Nat) : Int)
theorem drop_chk : ∀ N : Fin 5, ∀ j : Fin 4, ∀ z : Fin 16, j.val < N.val → z.val < 2 ^ N.val → dropN j.val z.val < 2 ^ (N.val - 1) ∧ (wideN j.val (dropN j.val z.val) = z.val ∨ wideN j.val (dropN j.val z.val) + 2 ^ j.val = z.val) := by decide +kernel
theorem wide_chk : ∀ j : Fin 4, ∀ u : Fin 8, dropN j.val (wideN j.val u.val) = u.val ∧ dropN j.val (wideN j.val u.val + 2 ^ j.val) = u.val := by decide +kernel
theorem drop_pk {N j : Nat} {zs : List Int} (hV : Valid (N : Int) zs) (hj : j < N) : unq (zs.map (dropI j)) = pkK (dpP zs j) (2 ^ (N - 1)) := by
  have hN : N ≤ 4 := by have := hV.1; omega
  have p16 : 2 ^ N ≤ 2 ^ 4 := Nat.pow_le_pow_right (by omega) hN
  have p8 : 2 ^ (N - 1) ≤ 2 ^ 3 := Nat.pow_le_pow_right (by omega) (by omega)
  refine unq_pk (fun z hz => ?_) fun u hu hp => ?_
  · have h1 := valid_lt hV hz
    obtain ⟨h2, h3⟩ := drop_chk ⟨N, by omega⟩ ⟨j, by omega⟩ ⟨z.toNat, by omega⟩ hj h1.2
    simp only at h2 h3
    refine ⟨dropN j z.toNat, h2, ?_, rfl⟩
    unfold dpP
    rw [Bool.or_eq_true, hasZ_iff, hasZ_iff]
    rcases h3 with h3 | h3
    · refine .inl ?_
      rw [h3, Int.toNat_of_nonneg h1.1]
      exact hz
    · refine .inr ?_
      rw [h3, Int.toNat_of_nonneg h1.1]
      exact hz
  · obtain ⟨h2, h3⟩ := wide_chk ⟨j, by omega⟩ ⟨u, by omega⟩
    simp only at h2 h3
    unfold dpP at hp
    rw [Bool.or_eq_true, hasZ_iff, hasZ_iff] at hp
    unfold dropI
    rcases hp with hp | hp
    · exact ⟨_, hp, by rw [Int.toNat_natCast, h2]⟩
    · exact ⟨_, hp, by rw [Int.toNat_natCast, h3]⟩
/-- what DropIssue gives -/
def dpB (n : Int) (zs : List Int) (j : Int) : Bool := hiB n zs j && decide (2 ≤ n)
def dpN (n : Int) (zs : List Int) (j : Int) : Int := if dpB n zs j = true then n - 1 else 0
def dpL (n : Int) (zs : List Int) (j : Int) : List Int := if dpB n zs j = true then unq (zs.map (dropI j.toNat)) else []
theorem dpB_iff {n j : Int} {zs : List Int} : dpB n zs j = true ↔ (vsB n zs = true ∧ 0 ≤ j ∧ j < n) ∧ 2 ≤ n := by
  unfold dpB
  rw [Bool.and_eq_true, hiB_iff, decide_eq_true_iff]
/-- the arithmetic of the program's closures -/
theorem drop_bits : ∀ j : Fin 4, ∀ x : Fin 16, bits .or .i64 (bits .and .i64 ((x.val : Nat) : Int) (((2 ^ j.val : Nat) : Int) - 1)) (bits .andNot .i64 (((x.val : Nat) : Int) / 2) (((2 ^ j.val : Nat) : Int) - 1)) = ((dropN j.val x.val : Nat) : Int) := by decide +kernel
theorem flip_bits : ∀ j : Fin 4, ∀ x : Fin 16, bits .xor .i64 ((x.val : Nat) : Int) ((2 ^ j.val : Nat) : Int) = ((x.val ^^^ 2 ^ j.val : Nat) : Int) := by decide +kernel
end Go.Proofs.Ytbnnblfgpdfmpaa

/- FlM: A space with an issue flipped, or dropped: plain mathematics. -/
namespace Go.Proofs.Ytbnnblfgpdfmpaa
open Go.RowKit Go.Joins

theorem pkv_valid {p : Nat → Bool} {M : Nat} (hM : 1 ≤ M ∧ M ≤ 4) (h : 0 < (pkK p (2 ^ M)).length) : Valid (M : Int) (pkK p (2 ^ M)) := by
  have hasc := List.pairwise_iff_getElem.1 (pkK_asc p (2 ^ M))
  have e : pw (M : Int) = ((2 ^ M : Nat) : Int) := by unfold pw; rw [Int.toNat_natCast]
  refine ⟨by omega, h, fun i hi => ⟨?_, fun h0 => ?_⟩⟩
  · obtain ⟨u, h1, _, h3⟩ := pkK_mem.1 (List.getElem_mem hi)
    rw [getD_lt hi, e]
    omega
  · rw [getD_lt hi, getD_lt (by omega)]
    exact hasc (i - 1) i (by omega) hi (by omega)
theorem nodup_le {α : Type} [DecidableEq α] : ∀ (l m : List α), l.Nodup → (∀ x ∈ l, x ∈ m) → l.length ≤ m.length
  | [], _, _, _ => Nat.zero_le _
  | a :: l, m, hn, h => by
    rw [List.nodup_cons] at hn
    obtain ⟨ha, hl⟩ := hn
    have ham : a ∈ m := h a (by simp)
    have ih := nodup_le l (m.erase a) hl (fun x hx => (List.mem_erase_of_ne (show x ≠ a from fun e => ha (by rw [← e]; exact hx))).2 (h x (by simp [hx])))
    have he := List.length_erase_of_mem ham
    have hp := List.length_pos_of_mem ham
    simp only [List.length_cons]
    omega
theorem valid_pair {n : Int} {zs : List Int} (h : Valid n zs) : zs.Pairwise (· < ·) := by
  rw [List.pairwise_iff_getElem]
  intro i j hi hj hij
  have := asc_valid h i j hij hj
  rw [getD_lt hi, getD_lt hj] at this
  exact this
section
variable {N j : Nat} {zs : List Int}
/-! ### flipped -/
theorem xor_back (x m : Nat) : (x ^^^ m) ^^^ m = x := by rw [Nat.xor_assoc, Nat.xor_self, Nat.xor_zero]
theorem fl_lt (hj : j < N) {x : Nat} (hx : x < 2 ^ N) : x ^^^ 2 ^ j < 2 ^ N := Nat.xor_lt_two_pow hx (Nat.pow_lt_pow_right (by omega) hj)
theorem fl_mem (hV : Valid (N : Int) zs) (hj : j < N) (x : Nat) : (x : Int) ∈ unq (zs.map (flipI j)) ↔ ((x ^^^ 2 ^ j : Nat) : Int) ∈ zs := by
  rw [flip_pk hV hj, pkK_mem]
  constructor
  · rintro ⟨u, h1, h2, h3⟩
    obtain rfl : u = x := by omega
    unfold flP at h2
    exact hasZ_iff.1 h2
  · intro h
    have h1 := (valid_lt hV h).2
    rw [Int.toNat_natCast] at h1
    have h2 := fl_lt hj h1
    rw [xor_back] at h2
    exact ⟨x, h2, hasZ_iff.2 h, rfl⟩
theorem fl_pos (hV : Valid (N : Int) zs) : 0 < (unq (zs.map (flipI j))).length := by
  have h0 := hV.2.1
  have hm := ((unq_facts (zs.map (flipI j))).2 (flipI j zs[0])).2 (List.mem_map_of_mem (List.getElem_mem h0))
  exact List.length_pos_of_mem hm
theorem fl_valid (hV : Valid (N : Int) zs) (hj : j < N) : Valid (N : Int) (unq (zs.map (flipI j))) := by
  have h := fl_pos (j := j) hV
  have hN := hV.1
  rw [flip_pk hV hj] at h ⊢
  exact pkv_valid (by omega) h
theorem fl_back (hV : Valid (N : Int) zs) (hj : j < N) : unq ((unq (zs.map (flipI j))).map (flipI j)) = zs := by
  have hF := fl_valid hV hj
  refine unq_eq (valid_pair hV) fun x => ?_
  constructor
  · intro hx
    have h1 := valid_lt hV hx
    obtain ⟨u, hu⟩ : ∃ u : Nat, u = x.toNat := ⟨_, rfl⟩
    obtain rfl : x = (u : Int) := by omega
    refine List.mem_map.2 ⟨((u ^^^ 2 ^ j : Nat) : Int), ?_, ?_⟩
    · rw [fl_mem hV hj, xor_back]
      exact hx
    · unfold flipI
      rw [Int.toNat_natCast, xor_back]
  · intro hx
    obtain ⟨y, hy, rfl⟩ := List.mem_map.1 hx
    have h1 := valid_lt hF hy
    obtain ⟨u, hu⟩ : ∃ u : Nat, u = y.toNat := ⟨_, rfl⟩
    obtain rfl : y = (u : Int) := by omega
    unfold flipI
    rw [Int.toNat_natCast]
    exact (fl_mem hV hj u).1 hy
theorem fl_len (hV : Valid (N : Int) zs) (hj : j < N) : (unq (zs.map (flipI j))).length = zs.length := by
  have h1 := unq_len (zs.map (flipI j))
  have h2 := unq_len ((unq (zs.map (flipI j))).map (flipI j))
  rw [fl_back hV hj] at h2
  rw [List.length_map] at h1 h2
  omega
/-- three answers that a flip turns with what they make -/
def turns (f : Nat → Nat → Nat → Nat) : Bool := (List.range 4).all fun j => (List.range 16).all fun x => (List.range 16).all fun y => (List.range 16).all fun z => f (x ^^^ 2 ^ j) (y ^^^ 2 ^ j) (z ^^^ 2 ^ j) == f x y z ^^^ 2 ^ j
theorem turns_at {f : Nat → Nat → Nat → Nat} (h : turns f = true) {j x y z : Nat} (hj : j < 4) (hx : x < 16) (hy : y < 16) (hz : z < 16) : f (x ^^^ 2 ^ j) (y ^^^ 2 ^ j) (z ^^^ 2 ^ j) = f x y z ^^^ 2 ^ j := by
  unfold turns at h
  have h1 := List.all_eq_true.1 h j (List.mem_range.2 hj)
  have h2 := List.all_eq_true.1 h1 x (List.mem_range.2 hx)
  have h3 := List.all_eq_true.1 h2 y (List.mem_range.2 hy)
  have h4 := List.all_eq_true.1 h3 z (List.mem_range.2 hz)
  exact beq_iff_eq.1 h4
set_option maxRecDepth 100000 in
theorem turns_med : turns med = true := by decide +kernel
set_option maxRecDepth 100000 in
theorem turns_par : turns par = true := by decide +kernel
theorem in_16 (hV : Valid (N : Int) zs) {x : Nat} (hx : (x : Int) ∈ zs) : x < 16 := by
  have := valid_range hV _ hx
  omega
theorem fl_cl {f : Nat → Nat → Nat → Nat} (J : Join f) (ht : turns f = true) (hV : Valid (N : Int) zs) (hj : j < N) (h : closedB f (N : Int) zs = true) : closedB f (N : Int) (unq (zs.map (flipI j))) = true := by
  have hN := hV.1
  rw [closed_mem J hV] at h
  rw [closed_mem J (fl_valid hV hj)]
  intro a b c ha hb hc
  rw [fl_mem hV hj] at ha hb hc ⊢
  have h1 := h _ _ _ ha hb hc
  have a1 := in_16 hV ha
  have b1 := in_16 hV hb
  have c1 := in_16 hV hc
  have h2 := turns_at ht (show j < 4 by omega) a1 b1 c1
  rw [xor_back, xor_back, xor_back] at h2
  rw [h2, xor_back]
  exact h1
theorem fl_closed {f : Nat → Nat → Nat → Nat} (J : Join f) (ht : turns f = true) (hV : Valid (N : Int) zs) (hj : j < N) : closedB f (N : Int) (unq (zs.map (flipI j))) = closedB f (N : Int) zs := by
  rw [Bool.eq_iff_iff]
  constructor
  · intro h
    have := fl_cl J ht (fl_valid hV hj) hj h
    rwa [fl_back hV hj] at this
  · exact fl_cl J ht hV hj
/-! ### the critical parts of a flipped space -/
/-- a part with an issue flipped -/
def flP2 (j : Nat) (p : Nat × Nat) : Nat × Nat := (p.1, p.2 ^^^ (2 ^ j &&& p.1))
theorem fl_opn (hV : Valid (N : Int) zs) (hj : j < N) (p : Nat × Nat) : opn (unq (zs.map (flipI j))) (flP2 j p) = opn zs p := by
  have key : ∀ {zs : List Int}, Valid (N : Int) zs → ∀ q : Nat × Nat, opn zs q = true → opn (unq (zs.map (flipI j))) (flP2 j q) = true := by
    intro zs hV q h
    rw [opn_iff] at h ⊢
    obtain ⟨x, hx, e⟩ := h
    have h1 := valid_lt hV hx
    obtain ⟨u, hu⟩ : ∃ u : Nat, u = x.toNat := ⟨_, rfl⟩
    obtain rfl : x = (u : Int) := by omega
    refine ⟨((u ^^^ 2 ^ j : Nat) : Int), ?_, ?_⟩
    · rw [fl_mem hV hj, xor_back]
      exact hx
    · rw [Int.toNat_natCast] at e ⊢
      unfold flP2
      rw [Nat.and_xor_distrib_right, e]
  rw [Bool.eq_iff_iff]
  constructor
  · intro h
    have h1 := key (fl_valid hV hj) _ h
    rw [fl_back hV hj] at h1
    have e : flP2 j (flP2 j p) = p := by
      unfold flP2
      rw [xor_back]
    rwa [e] at h1
  · exact key hV p
set_option maxRecDepth 100000 in
theorem fl_less_chk : ((List.range 4).all fun j => (List.range 4).all fun i => (List.range 16).all fun c => (List.range 16).all fun b => !(bitN c i == 1 && b &&& c == b) || lessP i (flP2 j (c, b)) == flP2 j (lessP i (c, b))) = true := by decide +kernel
theorem fl_less {i : Nat} (hj : j < 4) (hi : i < 4) {p : Nat × Nat} (h1 : p.1 < 16) (hb : p.2 &&& p.1 = p.2) (hi1 : bitN p.1 i = 1) : lessP i (flP2 j p) = flP2 j (lessP i p) := by
  have h2 : p.2 < 16 := by
    have : p.2 &&& p.1 ≤ p.1 := Nat.and_le_right
    omega
  have h := List.all_eq_true.1 (List.all_eq_true.1 (List.all_eq_true.1 (List.all_eq_true.1 fl_less_chk j (List.mem_range.2 hj)) i (List.mem_range.2 hi)) p.1 (List.mem_range.2 h1)) p.2 (List.mem_range.2 h2)
  rw [show (bitN p.1 i == 1 && p.2 &&& p.1 == p.2) = true from by simp [hi1, hb], Bool.not_true, Bool.false_or, beq_iff_eq] at h
  exact h
theorem fl_cr (hV : Valid (N : Int) zs) (hj : j < N) {p : Nat × Nat} (hp : p ∈ ordL N) : crB N (unq (zs.map (flipI j))) (flP2 j p) = crB N zs p := by
  have hN := hV.1
  have hf := ord_facts (by omega) hp
  have p16 : 2 ^ N ≤ 2 ^ 4 := Nat.pow_le_pow_right (by omega) (by omega)
  rw [Bool.eq_iff_iff, cr_iff, cr_iff, fl_opn hV hj]
  refine and_congr_right fun _ => ?_
  constructor
  · intro h i hi hb
    have h1 := h i hi hb
    rwa [fl_less (by omega) (by omega) (by omega) hf.2.1 hb, fl_opn hV hj] at h1
  · intro h i hi hb
    rw [fl_less (by omega) (by omega) (by omega) hf.2.1 hb, fl_opn hV hj]
    exact h i hi hb
set_option maxRecDepth 100000 in
theorem fl_perm_chk : range5 (fun n => (List.range n).all fun j => ((ordL n).map (flP2 j)).isPerm (ordL n)) = true := by decide +kernel
theorem fl_perm (hN : N ≤ 4) (hj : j < N) : ((ordL N).map (flP2 j)).Perm (ordL N) := by
  have h := range5_of fl_perm_chk hN
  exact List.isPerm_iff.1 (List.all_eq_true.1 h j (List.mem_range.2 hj))
theorem fl_count (hV : Valid (N : Int) zs) (hj : j < N) : (critL N (unq (zs.map (flipI j)))).length = (critL N zs).length := by
  have hN := hV.1
  unfold critL
  rw [← List.countP_eq_length_filter, ← List.countP_eq_length_filter, ← (fl_perm (by omega) hj).countP_eq, List.countP_map]
  exact List.countP_congr fun p hp => by rw [Function.comp_apply, fl_cr hV hj hp]
theorem fl_crR (hV : Valid (N : Int) zs) (hj : j < N) : (crR (N : Int) (unq (zs.map (flipI j)))).length = (crR (N : Int) zs).length := by
  rw [crR_yes (vsB_true hV), crR_yes (vsB_true (fl_valid hV hj)), Int.toNat_natCast]
  unfold ofP
  rw [List.length_map, List.length_map, fl_count hV hj]
/-! ### dropped -/
theorem dp_valid (hV : Valid (N : Int) zs) (hj : j < N) (h2 : 2 ≤ N) : Valid ((N - 1 : Nat) : Int) (unq (zs.map (dropI j))) := by
  have hN := hV.1
  have h0 := hV.2.1
  have h : 0 < (unq (zs.map (dropI j))).length := List.length_pos_of_mem (((unq_facts (zs.map (dropI j))).2 (dropI j zs[0])).2 (List.mem_map_of_mem (List.getElem_mem h0)))
  rw [drop_pk hV hj] at h ⊢
  exact pkv_valid (by omega) h
theorem dp_len (zs : List Int) : (unq (zs.map (dropI j))).length ≤ zs.length := by
  have h1 := unq_len (zs.map (dropI j))
  rwa [List.length_map] at h1
theorem dp_mem {x : Int} : x ∈ unq (zs.map (dropI j)) ↔ ∃ z ∈ zs, dropI j z = x := by
  rw [(unq_facts _).2, List.mem_map]
theorem dp_half (hV : Valid (N : Int) zs) (hj : j < N) : zs.length ≤ 2 * (unq (zs.map (dropI j))).length := by
  have hN := hV.1
  have p16 : 2 ^ N ≤ 2 ^ 4 := Nat.pow_le_pow_right (by omega) (by omega)
  have h := nodup_le zs ((unq (zs.map (dropI j))).flatMap fun y => [((wideN j y.toNat : Nat) : Int), ((wideN j y.toNat + 2 ^ j : Nat) : Int)]) ((valid_pair hV).imp fun h => by omega) fun x hx => by
    have h1 := valid_lt hV hx
    obtain ⟨_, h3⟩ := drop_chk ⟨N, by omega⟩ ⟨j, by omega⟩ ⟨x.toNat, by omega⟩ hj h1.2
    simp only at h3
    rw [List.mem_flatMap]
    refine ⟨_, dp_mem.2 ⟨x, hx, rfl⟩, ?_⟩
    unfold dropI
    rw [Int.toNat_natCast]
    simp only [List.mem_cons, List.not_mem_nil, or_false]
    omega
  have hl : ∀ l : List Int, (l.flatMap fun y => [((wideN j y.toNat : Nat) : Int), ((wideN j y.toNat + 2 ^ j : Nat) : Int)]).length = 2 * l.length := fun l => by
    induction l with
    | nil => rfl
    | cons a l ih => rw [List.flatMap_cons, List.length_append, ih]; simp; omega
  rw [hl] at h
  exact h
/-- three answers that lose an issue with what they make -/
def loses (f : Nat → Nat → Nat → Nat) : Bool := (List.range 4).all fun j => (List.range 16).all fun x => (List.range 16).all fun y => (List.range 16).all fun z => f (dropN j x) (dropN j y) (dropN j z) == dropN j (f x y z)
theorem loses_at {f : Nat → Nat → Nat → Nat} (h : loses f = true) {j x y z : Nat} (hj : j < 4) (hx : x < 16) (hy : y < 16) (hz : z < 16) : f (dropN j x) (dropN j y) (dropN j z) = dropN j (f x y z) := by
  unfold loses at h
  exact beq_iff_eq.1 (List.all_eq_true.1 (List.all_eq_true.1 (List.all_eq_true.1 (List.all_eq_true.1 h j (List.mem_range.2 hj)) x (List.mem_range.2 hx)) y (List.mem_range.2 hy)) z (List.mem_range.2 hz))
set_option maxRecDepth 100000 in
theorem loses_med : loses med = true := by decide +kernel
set_option maxRecDepth 100000 in
theorem loses_par : loses par = true := by decide +kernel
theorem dp_closed {f : Nat → Nat → Nat → Nat} (J : Join f) (ht : loses f = true) (hV : Valid (N : Int) zs) (hj : j < N) (h2 : 2 ≤ N) (h : closedB f (N : Int) zs = true) : closedB f ((N - 1 : Nat) : Int) (unq (zs.map (dropI j))) = true := by
  have hN := hV.1
  rw [closed_mem J hV] at h
  rw [closed_mem J (dp_valid hV hj h2)]
  have pre : ∀ a : Nat, (a : Int) ∈ unq (zs.map (dropI j)) → ∃ x : Nat, (x : Int) ∈ zs ∧ dropN j x = a := fun a ha => by
    obtain ⟨z, hz, e⟩ := dp_mem.1 ha
    have h1 := valid_lt hV hz
    refine ⟨z.toNat, by rwa [Int.toNat_of_nonneg h1.1], ?_⟩
    unfold dropI at e
    omega
  intro a b c ha hb hc
  obtain ⟨x, hx, rfl⟩ := pre a ha
  obtain ⟨y, hy, rfl⟩ := pre b hb
  obtain ⟨z, hz, rfl⟩ := pre c hc
  rw [loses_at ht (show j < 4 by omega) (in_16 hV hx) (in_16 hV hy) (in_16 hV hz)]
  refine dp_mem.2 ⟨_, h x y z hx hy hz, ?_⟩
  unfold dropI
  rw [Int.toNat_natCast]
end
end Go.Proofs.Ytbnnblfgpdfmpaa

/- Spc: Spaces made of what each judgment becomes: slices.Sort and slices.Compact at the program; spaceOf. -/
namespace Go.Proofs.Ytbnnblfgpdfmpaa
open Go.RowKit Go.Joins Go.Sort

theorem own_blkZ {w : World} {base g n : Nat} {zs : List Int} (h : w.ownsRow base 3 1 (.slice (some ⟨g, 0, none⟩) n n) n (zs.map (Value.int .i64))) : w.heap[g]? = some (.cells (zs.map (Value.int .i64)).toArray 3 (0, 0)) := by
  rcases h.2 with ⟨h0, _⟩ | ⟨g', cap', cur, hv, _, hb, _, _, hs, ht⟩
  · cases h0
  · cases hv
    rw [hb]
    have e : cur = (zs.map (Value.int .i64)).toArray := by
      apply Array.ext'
      rw [List.toList_toArray, ← ht]
      rw [List.take_of_length_le]
      simp [hs]
    rw [e]
/-- the first k made, zeros behind -/
def mrow (f : Int → Int) (zs : List Int) (k : Nat) : List Int := (zs.take k).map f ++ List.replicate (zs.length - k) 0
theorem mrow_zero (f : Int → Int) (zs : List Int) : mrow f zs 0 = List.replicate zs.length 0 := by simp [mrow]
theorem mrow_all (f : Int → Int) (zs : List Int) : mrow f zs zs.length = zs.map f := by simp [mrow]
theorem mrow_len (f : Int → Int) (zs : List Int) {k : Nat} (hk : k ≤ zs.length) : (mrow f zs k).length = zs.length := by
  unfold mrow
  rw [List.length_append, List.length_map, List.length_take, List.length_replicate]
  omega
theorem mrow_cell (f : Int → Int) (zs : List Int) {k j : Nat} (h : j < (mrow f zs k).length) : ((mrow f zs k).map (Value.int .i64)).toArray[j]? = some (.int .i64 ((mrow f zs k).getD j 0)) := by
  simp [h, List.getD_eq_getElem?_getD]
theorem mrow_set (f : Int → Int) (zs : List Int) {k : Nat} (h : k < zs.length) : (mrow f zs k).set k (f zs[k]) = mrow f zs (k + 1) := by
  have hl : ((zs.take k).map f).length = k := by rw [List.length_map, List.length_take]; omega
  unfold mrow
  rw [List.set_append_right _ _ (by omega), hl, Nat.sub_self, show zs.length - k = (zs.length - (k + 1)) + 1 from by omega, List.replicate_succ, List.set_cons_zero, List.take_add_one, List.getElem?_eq_getElem h, List.map_append]
  simp
theorem mrow_put (f : Int → Int) (zs : List Int) {k : Nat} (h : k < zs.length) : ((mrow f zs k).map (Value.int .i64)).toArray.setIfInBounds k (.int .i64 (f zs[k])) = ((mrow f zs (k + 1)).map (Value.int .i64)).toArray := by
  rw [← mrow_set f zs h, List.map_set, List.setIfInBounds_toArray]
theorem sortZ_any (g cap : Nat) (xs : List Int) (w : World) (hb : w.heap[g]? = some (.cells (xs.map (Value.int .i64)).toArray 3 (0, 0))) (hl : xs.length ≤ 1048576) :
    Calls Try.prog 66 #[.slice (some ⟨g, 0, none⟩) xs.length cap] w fun e w' => e = .returned (.tuple #[]) ∧ w'.heap[g]? = some (.cells ((srt xs).map (Value.int .i64)).toArray 3 (0, 0)) ∧ w.grownBy w' (some g) := by
  refine (Try.slices_Sort_int g 0 cap xs w (holds_blk hb) (lt_of_block hb) (by omega)).mono ?_
  rintro e w' ⟨he, n, os, rfl⟩
  exact ⟨he, blk_sorted (srt_len xs) hb, grownBy_sortedI _⟩
theorem compZ_any (g : Nat) (xs : List Int) (w : World) (base : Nat) (hg : base ≤ g) (hb : w.heap[g]? = some (.cells (xs.map (Value.int .i64)).toArray 3 (0, 0))) (hl : xs.length ≤ 1048576) :
    Calls Try.prog 67 #[.slice (some ⟨g, 0, none⟩) xs.length xs.length] w fun e w' => e = .returned (.slice (some ⟨g, 0, none⟩) (Lib.compact xs).length xs.length) ∧ Owns w' base (.slice (some ⟨g, 0, none⟩) (Lib.compact xs).length xs.length) (Lib.compact xs) ∧ w.grownBy w' (some g) := by
  refine (Try.slices_Compact_int g 0 xs.length xs w (holds_blk hb) (by omega) (Nat.le_refl _)).mono ?_
  rintro e w' ⟨he, q, rfl⟩
  have hcl : (Lib.compact xs).length ≤ xs.length := by
    unfold Lib.compact Lib.compactUpTo
    rw [List.length_map]
    refine Nat.le_trans (List.length_filter_le _ _) ?_
    simp
  have hlen : (Lib.compact xs ++ List.replicate (xs.length - (Lib.compact xs).length) 0).length = xs.length := by
    rw [List.length_append, List.length_replicate]
    omega
  have h1 := blk_put (w := w) (n := q) hlen hb
  have h2 := own_cut (base := base) h1 hg (by rw [hlen]; unfold maxLen; omega)
  rw [hlen] at h2
  exact ⟨he, h2, grown_put _⟩
set_option maxHeartbeats 4000000 in
set_option maxRecDepth 100000 in
theorem spaceOfD_any (f : Int → Int) (m : Int) (a : Option Addr) (cap gf : Nat) (zs : List Int) (w : World) (hi : Ints w a zs) (hn : zs.length ≤ 1048576) (h0 : 0 < zs.length)
    (hf : ∀ (x : Int) (w' : World), x ∈ zs → Below w.heap.size w w' → Calls Try.prog 48 #[.int .i64 x, .pointer (some ⟨gf, 0, none⟩)] w' fun e w'' => e = .returned (.int .i64 (f x)) ∧ Below w'.heap.size w' w'') :
    Calls Try.prog 43 #[.int .i64 m, .slice a zs.length cap, .func (.func 48) #[] #[.pointer (some ⟨gf, 0, none⟩)]] w (GivesS m (unq (zs.map f)) w) := by
  obtain ⟨i0, hi0, hz0, hz1, hz2⟩ := info_parts info_int
  have hres := heap_alloc_new w (.cells #[.int .i64 0, .slice none 0 0] 26)
  have HRES := hide hres
  have B0 := hide (bel1 w (.cells #[.int .i64 0, .slice none 0 0] 26))
  have HI := hide hi
  have HF := hide hf
  have HH0 := hide h0
  clear hres hi hf
  go_enter Try.func43, Try.ntmps43
  go_wp2_with (at_make; refine wpList_make_full _ rfl _ _ 22 rfl (w.heap.size + 1) 3 i0 (.int .i64 0) 1 Try.underlying22 hi0 hz0 hz1 _ _ _ _ zs.length rfl rfl (by first | omega | (simp; omega)) (by first | omega | (simp; omega)) ?b2 ?b3 (by simp) ?_)
  case b2 => rw [hz2]; omega
  case b3 => unfold maxLen; omega
  intro w0 hown0 hgrow0
  rw [madeInts] at hown0
  have hblk0 := own_blkZ hown0
  have BW := hide (B0.out.grown hgrow0 (by simp) (fun k h => by cases h))
  have HR0 := hide ((hgrow0.block w.heap.size (by simp) (by simp)).trans HRES.out)
  have HB0 := hide (show w0.heap[w.heap.size + 1]? = some (.cells ((mrow f zs 0).map (Value.int .i64)).toArray 3 (0, 0)) by rw [mrow_zero]; exact hblk0)
  clear hown0 hgrow0 hblk0
  go_wp2_with fail
  go_loopw [15] (fun i wr => ∃ k : Nat, k ≤ zs.length ∧ i = .int .i64 k ∧ wr.heap[w.heap.size + 1]? = some (.cells ((mrow f zs k).map (Value.int .i64)).toArray 3 (0, 0)) ∧ wr.heap[w.heap.size]? = some (.cells #[.int .i64 0, .slice none 0 0] 26 (0, 0)) ∧ Below w.heap.size w wr) (fun i _ => zs.length - (intOf i).toNat)
  case atStart => exact ⟨0, Nat.zero_le _, rfl, HB0.out, HR0.out, BW.out⟩
  case round =>
    clear HB0 HR0 BW
    obtain ⟨k, hk, rfl, hblk, hr, hb⟩ := hrel
    have HBL := hide hblk
    have HR := hide hr
    have HB := hide hb
    have hsz := lt_of_block hblk
    clear hblk hr
    by_cases hlt : k < zs.length
    · obtain ⟨sb, so, rfl, hbl, hcc⟩ := (HI.out.below hb) (by omega)
      have hck := hcc k hlt
      rw [getD_lt hlt] at hck
      obtain ⟨x, hx⟩ : ∃ x, zs[k] = x := ⟨_, rfl⟩
      rw [hx] at hck
      have HX := hide hx
      have HXM := hide (show x ∈ zs by rw [← hx]; exact List.getElem_mem hlt)
      clear hcc hbl hx hb
      go_wp2_with fail
      refine (HF.out x _ HXM.out HB.out).mono ?_
      rintro e w5 ⟨rfl, b5⟩
      have hblk5 := (b5.block _ hsz).trans HBL.out
      have hr5 := (b5.block _ (by omega)).trans HR.out
      have hmk : k < (mrow f zs k).length := by rw [mrow_len f zs hk]; exact hlt
      have q0 := cell_of_block hblk5 k
      rw [mrow_cell f zs hmk] at q0
      have q1 := unfrozen_of_block hblk5 k
      have HBL5 := hide hblk5
      have HR5 := hide hr5
      have HB5 := hide (bnext HB.out b5)
      clear hblk5 hr5 b5
      go_wp2
      go_roundw
      case rel =>
        refine ⟨k + 1, by omega, by go_num, ?_, (Below.heap_setCell _ _ _ _ (by show w.heap.size ≠ w.heap.size + 1; omega)).trans HR5.out, HB5.out.setCell (p := ⟨w.heap.size + 1, k, none⟩) (by show w.heap.size ≤ w.heap.size + 1; omega) _⟩
        rw [block_setCell HBL5.out, ← HX.out, mrow_put f zs hlt]
      case measure => simp only [intOf]; omega
    · obtain rfl : k = zs.length := by omega
      have hblk := HBL.out
      rw [mrow_all] at hblk
      have HBK := hide hblk
      clear hblk hb
      have hlm : (zs.map f).length ≤ 1048576 := by rw [List.length_map]; exact hn
      go_wp2_with fail
      have hsort := sortZ_any (w.heap.size + 1) zs.length (zs.map f) wr HBK.out hlm
      rw [List.length_map] at hsort
      refine hsort.mono ?_
      rintro e w5 ⟨rfl, h5, g5⟩
      have hr5 := hide ((g5.block _ (lt_of_block HR.out) (by simp)).trans HR.out)
      have HB5 := hide (bgrown HB.out g5 HB.out.size (fun j hj => by cases hj; omega))
      have H5 := hide h5
      clear h5 g5 hsort HBK HBL
      go_wp2_with fail
      have hcomp := compZ_any (w.heap.size + 1) (srt (zs.map f)) w5 (w.heap.size + 1) (Nat.le_refl _) H5.out (by rw [srt_len]; exact hlm)
      rw [srt_len, List.length_map] at hcomp
      refine hcomp.mono ?_
      rintro e w6 ⟨rfl, o6, g6⟩
      have hr6 := (g6.block _ (lt_of_block hr5.out) (by simp)).trans hr5.out
      have f0 := unfrozen_of_block hr6 0
      have f1 := unfrozen_of_block hr6 1
      have p0 := cell_of_block hr6 0
      have p1 := cell_of_block hr6 1
      have HR6 := hide hr6
      have HB6 := hide (bgrown HB5.out g6 HB5.out.size (fun j hj => by cases hj; omega))
      have HO6 := hide o6
      clear hr6 g6 o6 hcomp
      go_wp2
      refine bodyPost_ret (ret_space rfl _ _ _ _ _ rfl (block_setCell (i := 1) (block_setCell (i := 0) HR6.out _) _)) rfl ?_
      exact ⟨_, rfl, ((HO6.out.setBelow (p := ⟨w.heap.size, 0, none⟩) (by show w.heap.size < w.heap.size + 1; omega) _).setBelow (p := ⟨w.heap.size, 1, none⟩) (by show w.heap.size < w.heap.size + 1; omega) _).le (by omega), (HB6.out.setCell (p := ⟨w.heap.size, 0, none⟩) (Nat.le_refl _) _).setCell (p := ⟨w.heap.size, 1, none⟩) (Nat.le_refl _) _⟩
set_option maxHeartbeats 4000000 in
set_option maxRecDepth 100000 in
theorem spaceOfF_any (f : Int → Int) (m : Int) (a : Option Addr) (cap gf : Nat) (zs : List Int) (w : World) (hi : Ints w a zs) (hn : zs.length ≤ 1048576) (h0 : 0 < zs.length)
    (hf : ∀ (x : Int) (w' : World), x ∈ zs → Below w.heap.size w w' → Calls Try.prog 44 #[.int .i64 x, .pointer (some ⟨gf, 0, none⟩)] w' fun e w'' => e = .returned (.int .i64 (f x)) ∧ Below w'.heap.size w' w'') :
    Calls Try.prog 43 #[.int .i64 m, .slice a zs.length cap, .func (.func 44) #[] #[.pointer (some ⟨gf, 0, none⟩)]] w (GivesS m (unq (zs.map f)) w) := by
  obtain ⟨i0, hi0, hz0, hz1, hz2⟩ := info_parts info_int
  have hres := heap_alloc_new w (.cells #[.int .i64 0, .slice none 0 0] 26)
  have HRES := hide hres
  have B0 := hide (bel1 w (.cells #[.int .i64 0, .slice none 0 0] 26))
  have HI := hide hi
  have HF := hide hf
  have HH0 := hide h0
  clear hres hi hf
  go_enter Try.func43, Try.ntmps43
  go_wp2_with (at_make; refine wpList_make_full _ rfl _ _ 22 rfl (w.heap.size + 1) 3 i0 (.int .i64 0) 1 Try.underlying22 hi0 hz0 hz1 _ _ _ _ zs.length rfl rfl (by first | omega | (simp; omega)) (by first | omega | (simp; omega)) ?b2 ?b3 (by simp) ?_)
  case b2 => rw [hz2]; omega
  case b3 => unfold maxLen; omega
  intro w0 hown0 hgrow0
  rw [madeInts] at hown0
  have hblk0 := own_blkZ hown0
  have BW := hide (B0.out.grown hgrow0 (by simp) (fun k h => by cases h))
  have HR0 := hide ((hgrow0.block w.heap.size (by simp) (by simp)).trans HRES.out)
  have HB0 := hide (show w0.heap[w.heap.size + 1]? = some (.cells ((mrow f zs 0).map (Value.int .i64)).toArray 3 (0, 0)) by rw [mrow_zero]; exact hblk0)
  clear hown0 hgrow0 hblk0
  go_wp2_with fail
  go_loopw [15] (fun i wr => ∃ k : Nat, k ≤ zs.length ∧ i = .int .i64 k ∧ wr.heap[w.heap.size + 1]? = some (.cells ((mrow f zs k).map (Value.int .i64)).toArray 3 (0, 0)) ∧ wr.heap[w.heap.size]? = some (.cells #[.int .i64 0, .slice none 0 0] 26 (0, 0)) ∧ Below w.heap.size w wr) (fun i _ => zs.length - (intOf i).toNat)
  case atStart => exact ⟨0, Nat.zero_le _, rfl, HB0.out, HR0.out, BW.out⟩
  case round =>
    clear HB0 HR0 BW
    obtain ⟨k, hk, rfl, hblk, hr, hb⟩ := hrel
    have HBL := hide hblk
    have HR := hide hr
    have HB := hide hb
    have hsz := lt_of_block hblk
    clear hblk hr
    by_cases hlt : k < zs.length
    · obtain ⟨sb, so, rfl, hbl, hcc⟩ := (HI.out.below hb) (by omega)
      have hck := hcc k hlt
      rw [getD_lt hlt] at hck
      obtain ⟨x, hx⟩ : ∃ x, zs[k] = x := ⟨_, rfl⟩
      rw [hx] at hck
      have HX := hide hx
      have HXM := hide (show x ∈ zs by rw [← hx]; exact List.getElem_mem hlt)
      clear hcc hbl hx hb
      go_wp2_with fail
      refine (HF.out x _ HXM.out HB.out).mono ?_
      rintro e w5 ⟨rfl, b5⟩
      have hblk5 := (b5.block _ hsz).trans HBL.out
      have hr5 := (b5.block _ (by omega)).trans HR.out
      have hmk : k < (mrow f zs k).length := by rw [mrow_len f zs hk]; exact hlt
      have q0 := cell_of_block hblk5 k
      rw [mrow_cell f zs hmk] at q0
      have q1 := unfrozen_of_block hblk5 k
      have HBL5 := hide hblk5
      have HR5 := hide hr5
      have HB5 := hide (bnext HB.out b5)
      clear hblk5 hr5 b5
      go_wp2
      go_roundw
      case rel =>
        refine ⟨k + 1, by omega, by go_num, ?_, (Below.heap_setCell _ _ _ _ (by show w.heap.size ≠ w.heap.size + 1; omega)).trans HR5.out, HB5.out.setCell (p := ⟨w.heap.size + 1, k, none⟩) (by show w.heap.size ≤ w.heap.size + 1; omega) _⟩
        rw [block_setCell HBL5.out, ← HX.out, mrow_put f zs hlt]
      case measure => simp only [intOf]; omega
    · obtain rfl : k = zs.length := by omega
      have hblk := HBL.out
      rw [mrow_all] at hblk
      have HBK := hide hblk
      clear hblk hb
      have hlm : (zs.map f).length ≤ 1048576 := by rw [List.length_map]; exact hn
      go_wp2_with fail
      have hsort := sortZ_any (w.heap.size + 1) zs.length (zs.map f) wr HBK.out hlm
      rw [List.length_map] at hsort
      refine hsort.mono ?_
      rintro e w5 ⟨rfl, h5, g5⟩
      have hr5 := hide ((g5.block _ (lt_of_block HR.out) (by simp)).trans HR.out)
      have HB5 := hide (bgrown HB.out g5 HB.out.size (fun j hj => by cases hj; omega))
      have H5 := hide h5
      clear h5 g5 hsort HBK HBL
      go_wp2_with fail
      have hcomp := compZ_any (w.heap.size + 1) (srt (zs.map f)) w5 (w.heap.size + 1) (Nat.le_refl _) H5.out (by rw [srt_len]; exact hlm)
      rw [srt_len, List.length_map] at hcomp
      refine hcomp.mono ?_
      rintro e w6 ⟨rfl, o6, g6⟩
      have hr6 := (g6.block _ (lt_of_block hr5.out) (by simp)).trans hr5.out
      have f0 := unfrozen_of_block hr6 0
      have f1 := unfrozen_of_block hr6 1
      have p0 := cell_of_block hr6 0
      have p1 := cell_of_block hr6 1
      have HR6 := hide hr6
      have HB6 := hide (bgrown HB5.out g6 HB5.out.size (fun j hj => by cases hj; omega))
      have HO6 := hide o6
      clear hr6 g6 o6 hcomp
      go_wp2
      refine bodyPost_ret (ret_space rfl _ _ _ _ _ rfl (block_setCell (i := 1) (block_setCell (i := 0) HR6.out _) _)) rfl ?_
      exact ⟨_, rfl, ((HO6.out.setBelow (p := ⟨w.heap.size, 0, none⟩) (by show w.heap.size < w.heap.size + 1; omega) _).setBelow (p := ⟨w.heap.size, 1, none⟩) (by show w.heap.size < w.heap.size + 1; omega) _).le (by omega), (HB6.out.setCell (p := ⟨w.heap.size, 0, none⟩) (Nat.le_refl _) _).setCell (p := ⟨w.heap.size, 1, none⟩) (Nat.le_refl _) _⟩
end Go.Proofs.Ytbnnblfgpdfmpaa

/- FlpI: DropIssue and FlipIssue of the program. -/
namespace Go.Proofs.Ytbnnblfgpdfmpaa
open Go.RowKit Go.Joins

theorem givesX_no {n : Int} {zs : List Int} {o : Bool} {w W : World} (h0 : n = 0) (h1 : zs = []) (h2 : o = false) (hb : Below w.heap.size w W) : GivesX n zs o w (.returned (.tuple #[.agg #[.int .i64 0, .slice none 0 0], .bool false])) W := by
  subst h0 h1 h2
  exact ⟨_, rfl, World.ownsRow_nil _ _ _ _, hb⟩
theorem implVSf_was (n : Int) (a : Option Addr) (cap : Nat) (zs : List Int) (r : Bool) (w : World) (hi : Ints w a zs) (hn : zs.length ≤ 1048576) (h : vsB n zs = r) :
    Calls Try.prog 26 #[.agg #[.int .i64 n, .slice a zs.length cap]] w fun e w' => e = .returned (.bool r) ∧ Below w.heap.size w w' := by
  subst h
  exact implValidSpace_any n a cap zs w hi hn
set_option maxRecDepth 100000 in
theorem hasIssue_was (n j : Int) (a : Option Addr) (cap : Nat) (zs : List Int) (r : Bool) (w : World) (hi : Ints w a zs) (hn : zs.length ≤ 1048576) (h : hiB n zs j = r) :
    Calls Try.prog 42 #[.agg #[.int .i64 n, .slice a zs.length cap], .int .i64 j] w fun e w' => e = .returned (.bool r) ∧ Below w.heap.size w w' := by
  have S0 := SV.new w n a zs cap none [] 26 hi (Ints.nil _ _)
  obtain ⟨⟨_, c0, c1⟩, _⟩ := S0.pair
  clear hi
  by_cases hs : vsB n zs = false
  · have hr : r = false := by rw [← h]; unfold hiB; rw [hs]; rfl
    subst hr
    have HV := hide hs
    clear hs h
    go_enter Try.func42, Try.ntmps42
    go_wp2_with fail
    refine (implVSf_was _ _ _ _ false _ S0.2.1 hn HV.out).mono ?_
    rintro e w1 ⟨rfl, hb⟩
    go_wp2
    go_ret
    exact ⟨rfl, (S0.below hb).2.2.2⟩
  · have hs : vsB n zs = true := by simpa using hs
    have HV := hide hs
    by_cases hj0 : 0 ≤ j
    · by_cases hjn : j < n
      · have hr : r = true := by rw [← h]; unfold hiB; rw [hs, decide_eq_true hj0, decide_eq_true hjn]; rfl
        subst hr
        clear hs h
        go_enter Try.func42, Try.ntmps42
        go_wp2_with fail
        refine (implVSf_was _ _ _ _ true _ S0.2.1 hn HV.out).mono ?_
        rintro e w1 ⟨rfl, hb⟩
        have S1 := S0.below hb
        clear c0 c1 S0 hb
        obtain ⟨⟨_, c0, c1⟩, _⟩ := S1.pair
        go_wp2
        go_ret
        exact ⟨rfl, S1.2.2.2⟩
      · have hr : r = false := by rw [← h]; unfold hiB; rw [decide_eq_false hjn, Bool.and_false, Bool.and_false]
        subst hr
        clear hs h
        go_enter Try.func42, Try.ntmps42
        go_wp2_with fail
        refine (implVSf_was _ _ _ _ true _ S0.2.1 hn HV.out).mono ?_
        rintro e w1 ⟨rfl, hb⟩
        have S1 := S0.below hb
        clear c0 c1 S0 hb
        obtain ⟨⟨_, c0, c1⟩, _⟩ := S1.pair
        go_wp2
        go_ret
        exact ⟨ret_bool (decide_eq_false (by omega)), S1.2.2.2⟩
    · have hr : r = false := by rw [← h]; unfold hiB; rw [decide_eq_false hj0, Bool.false_and, Bool.and_false]
      subst hr
      clear hs h
      go_enter Try.func42, Try.ntmps42
      go_wp2_with fail
      refine (implVSf_was _ _ _ _ true _ S0.2.1 hn HV.out).mono ?_
      rintro e w1 ⟨rfl, hb⟩
      have S1 := S0.below hb
      clear c0 c1 S0 hb
      obtain ⟨⟨_, c0, c1⟩, _⟩ := S1.pair
      go_wp2
      go_ret
      exact ⟨rfl, S1.2.2.2⟩
theorem dropClosure_any (x : Int) (j g : Nat) (w : World) (hj : j < 4) (hx : 0 ≤ x ∧ x ≤ 15) (hc : w.cell? ⟨g, 0, none⟩ = some (.int .i64 (((2 ^ j : Nat) : Int) - 1))) :
    Calls Try.prog 48 #[.int .i64 x, .pointer (some ⟨g, 0, none⟩)] w fun e w' => e = .returned (.int .i64 (dropI j x)) ∧ Below w.heap.size w w' := by
  obtain ⟨y, rfl⟩ := Int.eq_ofNat_of_zero_le hx.1
  have HD : Hid (bits .or .i64 (bits .and .i64 (y : Int) (((2 ^ j : Nat) : Int) - 1)) (bits .andNot .i64 ((y : Int) / 2) (((2 ^ j : Nat) : Int) - 1)) = dropI j (y : Int)) := by
    unfold Hid dropI
    rw [Int.toNat_natCast]
    exact drop_bits ⟨j, hj⟩ ⟨y, by omega⟩
  have hy : y < 16 := by omega
  obtain ⟨pt, hpt⟩ : ∃ pt : Int, pt = ((2 ^ j : Nat) : Int) - 1 := ⟨_, rfl⟩
  rw [← hpt] at hc HD
  clear hpt hx
  go_enter Try.func48, Try.ntmps48
  go_wp2
  go_ret
  exact ⟨ret_int HD.out, Below.refl _ _⟩
set_option maxHeartbeats 4000000 in
set_option maxRecDepth 100000 in
theorem implDropIssue_any (n j : Int) (a : Option Addr) (cap : Nat) (zs : List Int) (w : World) (hi : Ints w a zs) (hn : zs.length ≤ 1048576) :
    Calls Try.prog 19 #[.agg #[.int .i64 n, .slice a zs.length cap], .int .i64 j] w (GivesX (dpN n zs j) (dpL n zs j) (dpB n zs j) w) := by
  have S0 := (SV.new w n a zs cap none [] 26 hi (Ints.nil _ _)).below (bel1 _ (.cells #[.int .i64 0, .slice none 0 0] 26))
  have hres := heap_alloc_new (w.alloc (.cells #[.int .i64 n, .slice a zs.length cap] 26)) (.cells #[.int .i64 0, .slice none 0 0] 26)
  simp only [World.size_alloc] at hres
  have HRES := hide hres
  have HS0 := hide S0
  obtain ⟨⟨_, c0, c1⟩, _⟩ := S0.pair
  clear hi hres S0
  have ENDNO : Hid (∀ W : World, Below w.heap.size w W → dpB n zs j = false → ∀ x y : Value, GivesX (dpN n zs j) (dpL n zs j) (dpB n zs j) w (.returned (.tuple #[.agg #[.int .i64 0, .slice none 0 0], .bool false])) ((W.setCell ⟨w.heap.size + 1, 0, none⟩ x).setCell ⟨w.heap.size + 1, 1, none⟩ y)) := fun W hB hno x y =>
    givesX_no (by unfold dpN; rw [if_neg (by rw [hno]; decide)]) (by unfold dpL; rw [if_neg (by rw [hno]; decide)]) hno ((hB.setCell (p := ⟨w.heap.size + 1, 0, none⟩) (by show w.heap.size ≤ w.heap.size + 1; omega) _).setCell (p := ⟨w.heap.size + 1, 1, none⟩) (by show w.heap.size ≤ w.heap.size + 1; omega) _)
  by_cases hh : hiB n zs j = false
  · have HNO := hide (show dpB n zs j = false by unfold dpB; rw [hh]; rfl)
    have HH := hide hh
    clear hh
    go_enter Try.func19, Try.ntmps19
    go_wp2_with fail
    refine (hasIssue_was _ _ _ _ _ false _ HS0.out.2.1 hn HH.out).mono ?_
    rintro e w1 ⟨rfl, hb⟩
    have hr1 := (hb.block _ (lt_of_block HRES.out)).trans HRES.out
    have f0 := unfrozen_of_block hr1 0
    have f1 := unfrozen_of_block hr1 1
    have r0 := cell_of_block hr1 0
    have r1 := cell_of_block hr1 1
    have HR1 := hide hr1
    have HB := hide (HS0.out.below hb).2.2.2
    clear hr1 hb HS0 HRES c0 c1
    go_wp2
    refine bodyPost_ret (ret_cross rfl _ _ _ _ _ rfl (block_setCell (i := 1) (block_setCell (i := 0) HR1.out _) _)) rfl ?_
    exact ENDNO.out _ HB.out HNO.out _ _
  · have hh : hiB n zs j = true := by simpa using hh
    have HH := hide hh
    obtain ⟨hvs, hj0, hjn⟩ := hiB_iff.1 hh
    have hV := valid_of hvs
    have hn4 := hV.1
    by_cases h2 : n < 2
    · have HNO := hide (show dpB n zs j = false by unfold dpB; rw [decide_eq_false (by omega), Bool.and_false])
      clear hh hvs hV
      go_enter Try.func19, Try.ntmps19
      go_wp2_with fail
      refine (hasIssue_was _ _ _ _ _ true _ HS0.out.2.1 hn HH.out).mono ?_
      rintro e w1 ⟨rfl, hb⟩
      have hr1 := (hb.block _ (lt_of_block HRES.out)).trans HRES.out
      have f0 := unfrozen_of_block hr1 0
      have f1 := unfrozen_of_block hr1 1
      have r0 := cell_of_block hr1 0
      have r1 := cell_of_block hr1 1
      have HR1 := hide hr1
      have S1 := HS0.out.below hb
      have HB := hide S1.2.2.2
      clear hr1 hb HS0 HRES c0 c1
      obtain ⟨⟨_, c0, c1⟩, _⟩ := S1.pair
      go_wp2
      refine bodyPost_ret (ret_cross rfl _ _ _ _ _ rfl (block_setCell (i := 1) (block_setCell (i := 0) HR1.out _) _)) rfl ?_
      exact ENDNO.out _ HB.out HNO.out _ _
    · obtain ⟨jN, rfl⟩ : ∃ jN : Nat, j = (jN : Int) := ⟨j.toNat, by omega⟩
      have hj4 : jN < 4 := by omega
      have hdp : dpB n zs (jN : Int) = true := by unfold dpB; rw [hh, decide_eq_true (by omega)]; rfl
      have HN := hide (show dpN n zs (jN : Int) = n - 1 by unfold dpN; rw [if_pos hdp])
      have HL := hide (show dpL n zs (jN : Int) = unq (zs.map (dropI jN)) by unfold dpL; rw [if_pos hdp, Int.toNat_natCast])
      have HBB := hide hdp
      have HZ := hide (fun z (hz : z ∈ zs) => valid_range hV z hz)
      have hz0 := hV.2.1
      have p8 : 2 ^ jN ≤ 2 ^ 3 := Nat.pow_le_pow_right (by omega) (by omega)
      have p1 := Nat.two_pow_pos jN
      have hsh : wrap64 ((2 : Int) ^ jN) = ((2 ^ jN : Nat) : Int) := by
        have e : ((2 : Int) ^ jN) = ((2 ^ jN : Nat) : Int) := by simp
        rw [e, IntWalk.wrap64_in _ (by omega)]
      obtain ⟨pt, hpt⟩ : ∃ pt, 2 ^ jN = pt := ⟨_, rfl⟩
      rw [hpt] at p8 p1 hsh
      have HPT := hide hpt
      clear hh hvs hV hdp hpt
      go_enter Try.func19, Try.ntmps19
      go_wp2_with fail
      refine (hasIssue_was _ _ _ _ _ true _ HS0.out.2.1 hn HH.out).mono ?_
      rintro e w1 ⟨rfl, hb⟩
      have HR1 := hide ((hb.block _ (lt_of_block HRES.out)).trans HRES.out)
      have S1 := hide (HS0.out.below hb)
      clear hb HS0 HRES c0 c1
      obtain ⟨⟨_, c0, c1⟩, _⟩ := S1.out.pair
      have S2 := hide (S1.out.below (bel1 w1 (.cells #[.int .i64 ((pt : Int) - 1)] 3)))
      have hcl : ∀ w', Below (w1.alloc (.cells #[.int .i64 ((pt : Int) - 1)] 3)).heap.size (w1.alloc (.cells #[.int .i64 ((pt : Int) - 1)] 3)) w' → w'.cell? ⟨w1.heap.size, 0, none⟩ = some (.int .i64 (((2 ^ jN : Nat) : Int) - 1)) := fun w' h => by
        rw [HPT.out]
        exact (h.cell (p := ⟨w1.heap.size, 0, none⟩) (by simp)).trans (by simp [go_sem])
      have HCL := hide hcl
      have HR2 := hide (((bel1 w1 (.cells #[.int .i64 ((pt : Int) - 1)] 3)).block _ (lt_of_block HR1.out)).trans HR1.out)
      obtain ⟨⟨_, e0, e1⟩, _⟩ := S2.out.pair
      clear hcl
      go_wp2_with fail
      refine (spaceOfD_any (dropI jN) _ _ _ w1.heap.size _ _ S2.out.2.1 hn hz0 (fun x w' hx hb' => dropClosure_any x jN _ w' hj4 (HZ.out x hx) (HCL.out w' hb'))).mono ?_
      rintro e w3 ⟨v3, rfl, o3, b3⟩
      have hr3 := (b3.block _ (lt_of_block HR2.out)).trans HR2.out
      have f0 := unfrozen_of_block hr3 0
      have f1 := unfrozen_of_block hr3 1
      have r0 := cell_of_block hr3 0
      have r1 := cell_of_block hr3 1
      have HR3 := hide hr3
      have HB3 := hide (bnext S2.out.2.2.2 b3)
      have HO3 := hide o3
      have hlt1 : w.heap.size + 1 < w1.heap.size := lt_of_block HR1.out
      obtain ⟨av, cv, rfl, _, _⟩ := o3.form
      clear hr3 b3 o3 c0 c1 e0 e1
      go_wp2
      refine bodyPost_ret (ret_cross rfl _ _ _ _ _ rfl (block_setCell (i := 1) (block_setCell (i := 0) HR3.out _) _)) rfl ?_
      rw [HN.out, HL.out, HBB.out]
      exact ⟨_, rfl, ((HO3.out.setBelow (p := ⟨w.heap.size + 1, 0, none⟩) (by simp; omega) _).setBelow (p := ⟨w.heap.size + 1, 1, none⟩) (by simp; omega) _).le (by simp; omega), (HB3.out.setCell (p := ⟨w.heap.size + 1, 0, none⟩) (by show w.heap.size ≤ w.heap.size + 1; omega) _).setCell (p := ⟨w.heap.size + 1, 1, none⟩) (by show w.heap.size ≤ w.heap.size + 1; omega) _⟩
theorem flipClosure_any (x : Int) (j g : Nat) (w : World) (hj : j < 4) (hx : 0 ≤ x ∧ x ≤ 15) (hc : w.cell? ⟨g, 0, none⟩ = some (.int .i64 (j : Int))) :
    Calls Try.prog 44 #[.int .i64 x, .pointer (some ⟨g, 0, none⟩)] w fun e w' => e = .returned (.int .i64 (flipI j x)) ∧ Below w.heap.size w w' := by
  obtain ⟨y, rfl⟩ := Int.eq_ofNat_of_zero_le hx.1
  have p8 : 2 ^ j ≤ 2 ^ 3 := Nat.pow_le_pow_right (by omega) (by omega)
  have p1 := Nat.two_pow_pos j
  have hsh : wrap64 ((2 : Int) ^ j) = ((2 ^ j : Nat) : Int) := by
    have e : ((2 : Int) ^ j) = ((2 ^ j : Nat) : Int) := by simp
    rw [e, IntWalk.wrap64_in _ (by omega)]
  have HD : Hid (bits .xor .i64 (y : Int) (wrap64 ((2 : Int) ^ j)) = flipI j (y : Int)) := by
    unfold Hid flipI
    rw [hsh, Int.toNat_natCast]
    exact flip_bits ⟨j, hj⟩ ⟨y, by omega⟩
  have hy : y < 16 := by omega
  clear hsh hx p8 p1
  go_enter Try.func44, Try.ntmps44
  go_wp2
  go_ret
  exact ⟨ret_int HD.out, Below.refl _ _⟩
set_option maxHeartbeats 4000000 in
set_option maxRecDepth 100000 in
theorem implFlipIssue_any (n j : Int) (a : Option Addr) (cap : Nat) (zs : List Int) (w : World) (hi : Ints w a zs) (hn : zs.length ≤ 1048576) :
    Calls Try.prog 14 #[.agg #[.int .i64 n, .slice a zs.length cap], .int .i64 j] w (GivesX (fpN n zs j) (fpL n zs j) (hiB n zs j) w) := by
  have S0 := ((SV.new w n a zs cap none [] 26 hi (Ints.nil _ _)).below (bel1 _ (.cells #[.int .i64 j] 3))).below (bel1 _ (.cells #[.int .i64 0, .slice none 0 0] 26))
  have hres := heap_alloc_new ((w.alloc (.cells #[.int .i64 n, .slice a zs.length cap] 26)).alloc (.cells #[.int .i64 j] 3)) (.cells #[.int .i64 0, .slice none 0 0] 26)
  have hjb := ((bel1 ((w.alloc (.cells #[.int .i64 n, .slice a zs.length cap] 26)).alloc (.cells #[.int .i64 j] 3)) (.cells #[.int .i64 0, .slice none 0 0] 26)).block (w.heap.size + 1) (by simp)).trans (by have h := heap_alloc_new (w.alloc (.cells #[.int .i64 n, .slice a zs.length cap] 26)) (.cells #[.int .i64 j] 3); simp only [World.size_alloc] at h; exact h)
  simp only [World.size_alloc] at hres
  have HRES := hide hres
  have HJB := hide hjb
  have HS0 := hide S0
  obtain ⟨⟨_, c0, c1⟩, _⟩ := S0.pair
  have d0 := cell_of_block hjb 0
  clear hi hres S0 hjb
  by_cases hh : hiB n zs j = false
  · have HH := hide hh
    clear hh
    go_enter Try.func14, Try.ntmps14
    go_wp2_with fail
    refine (hasIssue_was _ _ _ _ _ false _ HS0.out.2.1 hn HH.out).mono ?_
    rintro e w1 ⟨rfl, hb⟩
    have hr1 := (hb.block _ (lt_of_block HRES.out)).trans HRES.out
    have f0 := unfrozen_of_block hr1 0
    have f1 := unfrozen_of_block hr1 1
    have r0 := cell_of_block hr1 0
    have r1 := cell_of_block hr1 1
    have HR1 := hide hr1
    have HB := hide (HS0.out.below hb).2.2.2
    clear hr1 hb HS0 HRES c0 c1 d0
    go_wp2
    refine bodyPost_ret (ret_cross rfl _ _ _ _ _ rfl (block_setCell (i := 1) (block_setCell (i := 0) HR1.out _) _)) rfl ?_
    exact givesX_no (by unfold fpN; rw [if_neg (by rw [HH.out]; decide)]) (by unfold fpL; rw [if_neg (by rw [HH.out]; decide)]) HH.out ((HB.out.setCell (p := ⟨w.heap.size + 1 + 1, 0, none⟩) (by show w.heap.size ≤ w.heap.size + 1 + 1; omega) _).setCell (p := ⟨w.heap.size + 1 + 1, 1, none⟩) (by show w.heap.size ≤ w.heap.size + 1 + 1; omega) _)
  · have hh : hiB n zs j = true := by simpa using hh
    have HH := hide hh
    obtain ⟨hvs, hj0, hjn⟩ := hiB_iff.1 hh
    have hV := valid_of hvs
    have hn4 := hV.1
    obtain ⟨jN, rfl⟩ : ∃ jN : Nat, j = (jN : Int) := ⟨j.toNat, by omega⟩
    have hj4 : jN < 4 := by omega
    have HN := hide (show fpN n zs (jN : Int) = n by unfold fpN; rw [if_pos hh])
    have HL := hide (show fpL n zs (jN : Int) = unq (zs.map (flipI jN)) by unfold fpL; rw [if_pos hh, Int.toNat_natCast])
    have HZ := hide (fun z (hz : z ∈ zs) => valid_range hV z hz)
    have hz0 := hV.2.1
    clear hh hvs hV
    go_enter Try.func14, Try.ntmps14
    go_wp2_with fail
    refine (hasIssue_was _ _ _ _ _ true _ HS0.out.2.1 hn HH.out).mono ?_
    rintro e w1 ⟨rfl, hb⟩
    have HR1 := hide ((hb.block _ (lt_of_block HRES.out)).trans HRES.out)
    have HJ1 := hide ((hb.block _ (lt_of_block HJB.out)).trans HJB.out)
    have S1 := hide (HS0.out.below hb)
    clear hb HS0 HRES c0 c1 d0 HJB
    obtain ⟨⟨_, c0, c1⟩, _⟩ := S1.out.pair
    have hcl : ∀ w', Below w1.heap.size w1 w' → w'.cell? ⟨w.heap.size + 1, 0, none⟩ = some (.int .i64 (jN : Int)) := fun w' h => cell_of_block ((h.block _ (lt_of_block HJ1.out)).trans HJ1.out) 0
    have HCL := hide hcl
    clear hcl
    go_wp2_with fail
    refine (spaceOfF_any (flipI jN) _ _ _ (w.heap.size + 1) _ _ S1.out.2.1 hn hz0 (fun x w' hx hb' => flipClosure_any x jN _ w' hj4 (HZ.out x hx) (HCL.out w' hb'))).mono ?_
    rintro e w3 ⟨v3, rfl, o3, b3⟩
    have hr3 := (b3.block _ (lt_of_block HR1.out)).trans HR1.out
    have f0 := unfrozen_of_block hr3 0
    have f1 := unfrozen_of_block hr3 1
    have r0 := cell_of_block hr3 0
    have r1 := cell_of_block hr3 1
    have HR3 := hide hr3
    have HB3 := hide (bnext S1.out.2.2.2 b3)
    have HO3 := hide o3
    have hlt1 : w.heap.size + 1 + 1 < w1.heap.size := lt_of_block HR1.out
    obtain ⟨av, cv, rfl, _, _⟩ := o3.form
    clear hr3 b3 o3 c0 c1
    go_wp2
    refine bodyPost_ret (ret_cross rfl _ _ _ _ _ rfl (block_setCell (i := 1) (block_setCell (i := 0) HR3.out _) _)) rfl ?_
    rw [HN.out, HL.out, HH.out]
    exact ⟨_, rfl, ((HO3.out.setBelow (p := ⟨w.heap.size + 1 + 1, 0, none⟩) (by simp; omega) _).setBelow (p := ⟨w.heap.size + 1 + 1, 1, none⟩) (by simp; omega) _).le (by omega), (HB3.out.setCell (p := ⟨w.heap.size + 1 + 1, 0, none⟩) (by show w.heap.size ≤ w.heap.size + 1 + 1; omega) _).setCell (p := ⟨w.heap.size + 1 + 1, 1, none⟩) (by show w.heap.size ≤ w.heap.size + 1 + 1; omega) _⟩
end Go.Proofs.Ytbnnblfgpdfmpaa
