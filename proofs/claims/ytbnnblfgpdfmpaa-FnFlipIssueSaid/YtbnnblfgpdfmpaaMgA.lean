/- Texts of this seat one behind the other: Join, Has, ListLaw, JoinW, JoinP, Clo, Med, Vlt, CloM, OpenB, CrM, Open, CrS, CrP, CrE, CrN, CrC, MapB, MapK, MapL, MapI, MapV, CrD, CrO, PtS, CrI, LawH, EqSp, MedI, OpenI, SwI, CrL. Conditions: none. -/
import Derived.Test.YtbnnblfgpdfmpaaSV
import Derived.Test.YtbnnblfgpdfmpaaBits
import Derived.Test.YtbnnblfgpdfmpaaValid
import Derived.Test.YtbnnblfgpdfmpaaMark
import Derived.Test.YtbnnblfgpdfmpaaSp
import Derived.Test.YtbnnblfgpdfmpaaBit
import Derived.Test.YtbnnblfgpdfmpaaPart
import Derived.Test.YtbnnblfgpdfmpaaOwnP
import Derived.Test.YtbnnblfgpdfmpaaGap
import Derived.Test.YtbnnblfgpdfmpaaBase
import Derived.Test.YtbnnblfgpdfmpaaRead
import Derived.Test.YtbnnblfgpdfmpaaPairs
import Derived.Deep.LoopGhost
import Derived.Handy
import Derived.Outline
import Derived.Deep.RegionHeld3
import Derived.Deep.RegionWith
import Derived.Deep.QuietTactic
import Derived.BigQuiet
import Derived.Maps.Own
import Derived.Maps.OwnSet
import Derived.DeepKeys4
import Derived.Maps.Keyed
import Derived.Maps.Views
import Derived.Maps.RangeWalk

/- Join: impl.joinedOnce. -/
namespace Go.Proofs.Ytbnnblfgpdfmpaa
open Go.RowKit Go.Joins

/-- the judgment at a place, as a number -/
def zN (zs : List Int) (i : Nat) : Nat := (zs.getD i 0).toNat
/-- behind the first i judgments -/
def MarkA (f : Nat → Nat → Nat → Nat) (zs : List Int) (i t : Nat) : Prop := (∃ i0, i0 < i ∧ t = zN zs i0) ∨ ∃ i0 j0 k0, i0 < i ∧ j0 < i0 ∧ k0 < j0 ∧ t = f (zN zs i0) (zN zs j0) (zN zs k0)
/-- within the judgment i, behind the first j -/
def MarkB (f : Nat → Nat → Nat → Nat) (zs : List Int) (i j t : Nat) : Prop := MarkA f zs i t ∨ t = zN zs i ∨ ∃ j0 k0, j0 < j ∧ k0 < j0 ∧ t = f (zN zs i) (zN zs j0) (zN zs k0)
/-- within i and j, behind the first k -/
def MarkC (f : Nat → Nat → Nat → Nat) (zs : List Int) (i j k t : Nat) : Prop := MarkB f zs i j t ∨ ∃ k0, k0 < k ∧ t = f (zN zs i) (zN zs j) (zN zs k0)
theorem markB_start (f : Nat → Nat → Nat → Nat) (zs : List Int) (i t : Nat) : MarkB f zs i 0 t ↔ (MarkA f zs i t ∨ t = zN zs i) := by
  unfold MarkB
  constructor
  · rintro (h | h | ⟨j0, k0, h, _⟩)
    · exact .inl h
    · exact .inr h
    · omega
  · rintro (h | h)
    · exact .inl h
    · exact .inr (.inl h)
theorem markC_start (f : Nat → Nat → Nat → Nat) (zs : List Int) (i j t : Nat) : MarkC f zs i j 0 t ↔ MarkB f zs i j t := by
  unfold MarkC
  constructor
  · rintro (h | ⟨k0, h, _⟩)
    · exact h
    · omega
  · exact .inl
theorem markC_step (f : Nat → Nat → Nat → Nat) (zs : List Int) (i j k t : Nat) : MarkC f zs i j (k + 1) t ↔ (MarkC f zs i j k t ∨ t = f (zN zs i) (zN zs j) (zN zs k)) := by
  unfold MarkC
  constructor
  · rintro (h | ⟨k0, h, e⟩)
    · exact .inl (.inl h)
    · rcases Nat.lt_or_ge k0 k with h1 | h1
      · exact .inl (.inr ⟨k0, h1, e⟩)
      · obtain rfl : k0 = k := by omega
        exact .inr e
  · rintro ((h | ⟨k0, h, e⟩) | e)
    · exact .inl h
    · exact .inr ⟨k0, by omega, e⟩
    · exact .inr ⟨k, by omega, e⟩
theorem markC_end (f : Nat → Nat → Nat → Nat) (zs : List Int) (i j t : Nat) : MarkC f zs i j j t ↔ MarkB f zs i (j + 1) t := by
  unfold MarkC MarkB
  constructor
  · rintro ((h | h | ⟨j0, k0, h1, h2, e⟩) | ⟨k0, h, e⟩)
    · exact .inl h
    · exact .inr (.inl h)
    · exact .inr (.inr ⟨j0, k0, by omega, h2, e⟩)
    · exact .inr (.inr ⟨j, k0, by omega, h, e⟩)
  · rintro (h | h | ⟨j0, k0, h1, h2, e⟩)
    · exact .inl (.inl h)
    · exact .inl (.inr (.inl h))
    · rcases Nat.lt_or_ge j0 j with h | h
      · exact .inl (.inr (.inr ⟨j0, k0, h, h2, e⟩))
      · obtain rfl : j0 = j := by omega
        exact .inr ⟨k0, h2, e⟩
theorem markB_end (f : Nat → Nat → Nat → Nat) (zs : List Int) (i t : Nat) : MarkB f zs i i t ↔ MarkA f zs (i + 1) t := by
  unfold MarkB MarkA
  constructor
  · rintro ((⟨i0, h, e⟩ | ⟨i0, j0, k0, h, h1, h2, e⟩) | h | ⟨j0, k0, h1, h2, e⟩)
    · exact .inl ⟨i0, by omega, e⟩
    · exact .inr ⟨i0, j0, k0, by omega, h1, h2, e⟩
    · exact .inl ⟨i, by omega, h⟩
    · exact .inr ⟨i, j0, k0, by omega, h1, h2, e⟩
  · rintro (⟨i0, h, e⟩ | ⟨i0, j0, k0, h, h1, h2, e⟩)
    · rcases Nat.lt_or_ge i0 i with h3 | h3
      · exact .inl (.inl ⟨i0, h3, e⟩)
      · obtain rfl : i0 = i := by omega
        exact .inr (.inl e)
    · rcases Nat.lt_or_ge i0 i with h3 | h3
      · exact .inl (.inr ⟨i0, j0, k0, h3, h1, h2, e⟩)
      · obtain rfl : i0 = i := by omega
        exact .inr (.inr ⟨j0, k0, h1, h2, e⟩)

/-- The sixteen marks: block g holds them, and they tell P. -/
def Marks (w : World) (g : Nat) (P : Nat → Prop) : Prop := ∃ hs : List Bool, hs.length = 16 ∧ w.heap[g]? = some (.cells (hs.map Value.bool).toArray 72 (0, 0)) ∧ ∀ t, t < 16 → (hs.getD t false = true ↔ P t)
theorem Marks.iff_ {w : World} {g : Nat} {P Q : Nat → Prop} (h : Marks w g P) (hpq : ∀ t, P t ↔ Q t) : Marks w g Q := by
  obtain ⟨hs, h1, h2, h3⟩ := h
  exact ⟨hs, h1, h2, fun t ht => (h3 t ht).trans (hpq t)⟩
theorem Marks.below {w w' : World} {g B : Nat} {P : Nat → Prop} (h : Marks w g P) (hb : Below B w w') (hg : g < B) : Marks w' g P := by
  obtain ⟨hs, h1, h2, h3⟩ := h
  exact ⟨hs, h1, (hb.block g hg).trans h2, h3⟩
theorem Marks.set_ {w : World} {g x : Nat} {P : Nat → Prop} (h : Marks w g P) (hx : x < 16) : Marks (w.setCell ⟨g, x, none⟩ (.bool true)) g (fun t => P t ∨ t = x) := by
  obtain ⟨hs, h1, h2, h3⟩ := h
  refine ⟨hs.set x true, by simpa using h1, ?_, fun t ht => ?_⟩
  · rw [block_setCell h2]
    simp
  · rw [List.getD_eq_getElem?_getD]
    by_cases he : x = t
    · subst he
      rw [List.getElem?_set_self (by omega)]
      simp
    · rw [List.getElem?_set_ne he, ← List.getD_eq_getElem?_getD, h3 t ht]
      constructor
      · exact .inl
      · rintro (h | h)
        · exact h
        · exact absurd h.symm he
theorem Marks.cell {w : World} {g x : Nat} {P : Nat → Prop} (h : Marks w g P) (hx : x < 16) : ∃ b, w.cell? ⟨g, x, none⟩ = some (.bool b) ∧ w.frozen? ⟨g, x, none⟩ = false := by
  obtain ⟨hs, h1, h2, h3⟩ := h
  refine ⟨hs[x]'(by omega), ?_, unfrozen_of_block h2 x⟩
  rw [cell_of_block h2 x]
  simp [h1, hx]
theorem markA_zero (f : Nat → Nat → Nat → Nat) (zs : List Int) (t : Nat) : ¬ MarkA f zs 0 t := by
  rintro (⟨i0, h, _⟩ | ⟨i0, j0, k0, h, _⟩) <;> omega
/-- what joinedOnce answers -/
def joinL (f : Nat → Nat → Nat → Nat) (zs : List Int) : List Int := (joined f (zs.map Int.toNat)).map fun (t : Nat) => (t : Int)
theorem Marks.new (w : World) (P : Nat → Prop) (h : ∀ t, ¬ P t) :
    Marks (w.alloc (.cells #[.bool false, .bool false, .bool false, .bool false, .bool false, .bool false, .bool false, .bool false, .bool false, .bool false, .bool false, .bool false, .bool false, .bool false, .bool false, .bool false] 72)) w.heap.size P :=
  ⟨List.replicate 16 false, by simp, by rw [heap_alloc_new]; rfl, fun t ht => by
    constructor
    · intro he
      rw [List.getD_eq_getElem?_getD, List.getElem?_replicate] at he
      simp [ht] at he
    · intro hp
      exact absurd hp (h t)⟩
set_option maxRecDepth 100000 in
theorem index_marks (hs : List Bool) (hl : hs.length = 16) : ∀ (k : Nat), k < 16 → ∀ w : World, (Instr.index 72 (.agg (hs.map Value.bool).toArray) (.int .i64 (k : Nat))).run Try.prog w = .ok (.bool (hs.getD k false)) w := by
  match hs, hl with
  | [b0, b1, b2, b3, b4, b5, b6, b7, b8, b9, b10, b11, b12, b13, b14, b15], _ =>
    intro k hk w
    rcases (show k = 0 ∨ k = 1 ∨ k = 2 ∨ k = 3 ∨ k = 4 ∨ k = 5 ∨ k = 6 ∨ k = 7 ∨ k = 8 ∨ k = 9 ∨ k = 10 ∨ k = 11 ∨ k = 12 ∨ k = 13 ∨ k = 14 ∨ k = 15 from by omega) with
      rfl | rfl | rfl | rfl | rfl | rfl | rfl | rfl | rfl | rfl | rfl | rfl | rfl | rfl | rfl | rfl
    all_goals kernel_rfl
theorem range_filter (p : Nat → Bool) (t : Nat) : (((List.range (t + 1)).filter p).map fun (u : Nat) => (u : Int)) = (((List.range t).filter p).map fun (u : Nat) => (u : Int)) ++ (if p t = true then [(t : Int)] else []) := by
  rw [List.range_succ, List.filter_append]
  by_cases h : p t = true <;> simp [h]
theorem markA_all (f : Nat → Nat → Nat → Nat) (zs : List Int) (t : Nat) : MarkA f zs zs.length t ↔ (t ∈ zs.map Int.toNat ∨ Made f (zs.map Int.toNat) t) := by
  have hz : ∀ i, i < zs.length → (zs.map Int.toNat).getD i 0 = zN zs i := fun i hi => by
    unfold zN
    simp [List.getD_eq_getElem?_getD, hi]
  unfold MarkA Made
  constructor
  · rintro (⟨i0, h, e⟩ | ⟨i0, j0, k0, h, h1, h2, e⟩)
    · left
      rw [e, ← hz i0 h]
      exact mem_getD (by simpa using h)
    · right
      exact ⟨i0, j0, k0, h2, h1, by simpa using h, by rw [hz i0 h, hz j0 (by omega), hz k0 (by omega)]; exact e⟩
  · rintro (h | ⟨i0, j0, k0, h2, h1, h, e⟩)
    · left
      obtain ⟨i, hi, e⟩ := getD_of_mem h
      have hi' : i < zs.length := by simpa using hi
      exact ⟨i, hi', by rw [← hz i hi']; exact e.symm⟩
    · right
      have h' : i0 < zs.length := by simpa using h
      exact ⟨i0, j0, k0, h', h1, h2, by rw [← hz i0 h', ← hz j0 (by omega), ← hz k0 (by omega)]; exact e⟩
end Go.Proofs.Ytbnnblfgpdfmpaa

/- Has: Whether a list has a number: the model's loop and slices.Contains; InSpace. -/
namespace Go.Proofs.Ytbnnblfgpdfmpaa
open Go.RowKit Go.Joins

def hasB (zs : List Int) (x : Int) : Bool := decide (x ∈ zs)
theorem mem_of_at {zs : List Int} {k : Nat} (h : k < zs.length) : zs[k] ∈ zs := List.getElem_mem h
theorem not_mem_of {zs : List Int} {x : Int} (h : ∀ j, j < zs.length → zs.getD j 0 ≠ x) : x ∉ zs := by
  intro hm
  obtain ⟨j, hj, e⟩ := List.getElem_of_mem hm
  exact h j hj (by rw [getD_lt hj]; exact e)
theorem hasB_true {zs : List Int} {x : Int} (h : x ∈ zs) : hasB zs x = true := by simpa [hasB] using h
theorem hasB_false {zs : List Int} {x : Int} (h : x ∉ zs) : hasB zs x = false := by simpa [hasB] using h

set_option maxHeartbeats 400000 in
theorem has_any (n x : Int) (a : Option Addr) (cap : Nat) (zs : List Int) (w : World) (hi : Ints w a zs) (hn : zs.length ≤ 1048576) :
    Calls Try.prog 40 #[.agg #[.int .i64 n, .slice a zs.length cap], .int .i64 x] w fun e w' => e = .returned (.bool (hasB zs x)) ∧ Below w.heap.size w w' := by
  have bx := Box.new w n a zs.length cap 26
  have ia := hi.below (bel1 w (.cells #[.int .i64 n, .slice a zs.length cap] 26))
  clear hi
  go_enter Try.func40, Try.ntmps40
  go_wp2_with fail
  go_loopw [5] (fun i wr => ∃ k : Nat, k ≤ zs.length ∧ i = .int .i64 k ∧ (∀ j, j < k → zs.getD j 0 ≠ x) ∧ Below (w.alloc (.cells #[.int .i64 n, .slice a zs.length cap] 26)).heap.size (w.alloc (.cells #[.int .i64 n, .slice a zs.length cap] 26)) wr) (fun i _ => zs.length - (intOf i).toNat)
  case atStart => exact ⟨0, Nat.zero_le _, rfl, fun j hj => by omega, Below.refl _ _⟩
  case round =>
    obtain ⟨k, hk, rfl, hall, hb⟩ := hrel
    have HA := hide hall
    clear hall
    obtain ⟨_, c0, c1⟩ := bx.below hb
    by_cases hlt : k < zs.length
    · obtain ⟨b, off, rfl, hbl, hc⟩ := (ia.below hb) (by omega)
      have hck := hc k hlt
      rw [getD_lt hlt] at hck
      clear hc ia
      by_cases he : zs[k] = x
      · have hE : (zs[k] == x) = true := by simpa using he
        have HF := hide (hasB_true (zs := zs) (x := x) (he ▸ mem_of_at hlt))
        clear he
        go_wp2
        go_ret
        exact ⟨ret_bool HF.out.symm, bnext (bel1 w _) hb⟩
      · have hE : (zs[k] == x) = false := by simpa using he
        have HE := hide he
        clear he
        go_wp2
        go_roundw
        case rel => exact ⟨k + 1, by omega, by go_num, fun j hj => by
          rcases Nat.lt_or_ge j k with h | h
          · exact HA.out j h
          · obtain rfl : j = k := by omega
            rw [getD_lt hlt]
            exact HE.out, hb⟩
        case measure => simp only [intOf]; omega
    · obtain rfl : k = zs.length := by omega
      go_wp2
      go_ret
      exact ⟨ret_bool (hasB_false (not_mem_of HA.out)).symm, bnext (bel1 w _) hb⟩

/-- What slices.Index leaves. -/
def IdxPost (zs : List Int) (x : Int) (w : World) (e : Ending) (w' : World) : Prop :=
  ∃ r : Int, ((x ∈ zs ∧ 0 ≤ r) ∨ (x ∉ zs ∧ r = -1)) ∧ r ≤ 1048576 ∧ e = .returned (.int .i64 r) ∧ Below w.heap.size w w'

set_option maxHeartbeats 400000 in
theorem index_any (x : Int) (a : Option Addr) (cap : Nat) (zs : List Int) (w : World) (hi : Ints w a zs) (hn : zs.length ≤ 1048576) :
    Calls Try.prog 80 #[.slice a zs.length cap, .int .i64 x] w (IdxPost zs x w) := by
  go_enter Try.func80, Try.ntmps80
  go_wp2_with fail
  go_loopw [8] (fun i wr => ∃ k : Nat, k ≤ zs.length ∧ i = .int .i64 k ∧ (∀ j, j < k → zs.getD j 0 ≠ x) ∧ Below w.heap.size w wr) (fun i _ => zs.length - (intOf i).toNat)
  case atStart => exact ⟨0, Nat.zero_le _, rfl, fun j hj => by omega, Below.refl _ _⟩
  case round =>
    obtain ⟨k, hk, rfl, hall, hb⟩ := hrel
    have HA := hide hall
    clear hall
    by_cases hlt : k < zs.length
    · obtain ⟨b, off, rfl, hbl, hc⟩ := (hi.below hb) (by omega)
      have hck := hc k hlt
      rw [getD_lt hlt] at hck
      clear hc hi
      by_cases he : x = zs[k]
      · have hE : (x == zs[k]) = true := by simpa using he
        have HE := hide he
        clear he
        go_wp2
        go_ret
        exact ⟨k, .inl ⟨by rw [HE.out]; exact mem_of_at hlt, by omega⟩, by omega, rfl, hb⟩
      · have hE : (x == zs[k]) = false := by simpa using he
        have HE := hide he
        clear he
        go_wp2
        go_roundw
        case rel => exact ⟨k + 1, by omega, by go_num, fun j hj => by
          rcases Nat.lt_or_ge j k with h | h
          · exact HA.out j h
          · obtain rfl : j = k := by omega
            rw [getD_lt hlt]
            exact fun e => HE.out e.symm, hb⟩
        case measure => simp only [intOf]; omega
    · obtain rfl : k = zs.length := by omega
      go_wp2
      go_ret
      exact ⟨-1, .inr ⟨not_mem_of HA.out, rfl⟩, by omega, rfl, hb⟩

theorem contains_any (x : Int) (a : Option Addr) (cap : Nat) (zs : List Int) (w : World) (hi : Ints w a zs) (hn : zs.length ≤ 1048576) :
    Calls Try.prog 63 #[.slice a zs.length cap, .int .i64 x] w fun e w' => e = .returned (.bool (hasB zs x)) ∧ Below w.heap.size w w' := by
  by_cases hm : x ∈ zs
  · have HB := hide (hasB_true hm)
    go_enter Try.func63, Try.ntmps63
    go_wp2_with fail
    refine (index_any _ _ _ _ _ hi hn).mono ?_
    rintro e w' ⟨r, hr, hr2, rfl, hb⟩
    have h0 : 0 ≤ r := by
      rcases hr with ⟨_, h⟩ | ⟨h, _⟩
      · exact h
      · exact absurd hm h
    clear hr hm
    go_wp2
    go_ret
    exact ⟨ret_bool HB.out.symm, hb⟩
  · have HB := hide (hasB_false hm)
    go_enter Try.func63, Try.ntmps63
    go_wp2_with fail
    refine (index_any _ _ _ _ _ hi hn).mono ?_
    rintro e w' ⟨r, hr, hr2, rfl, hb⟩
    have h0 : r < 0 := by
      rcases hr with ⟨h, _⟩ | ⟨_, h⟩
      · exact absurd h hm
      · omega
    clear hr hm
    go_wp2
    go_ret
    exact ⟨ret_bool (by rw [HB.out]; simp; omega), hb⟩

/-- what InSpace answers -/
def inB (n : Int) (zs : List Int) (x : Int) : Bool := vsB n zs && hasB zs x
theorem inB_false {n : Int} {zs : List Int} {x : Int} (h : vsB n zs = false) : inB n zs x = false := by unfold inB; rw [h]; rfl
theorem inB_true {n : Int} {zs : List Int} {x : Int} (h : vsB n zs = true) : inB n zs x = hasB zs x := by unfold inB; rw [h]; rfl

theorem implInSpace_any (n x : Int) (a : Option Addr) (cap : Nat) (zs : List Int) (w : World) (hi : Ints w a zs) (hn : zs.length ≤ 1048576) :
    Calls Try.prog 32 #[.agg #[.int .i64 n, .slice a zs.length cap], .int .i64 x] w fun e w' => e = .returned (.bool (inB n zs x)) ∧ Below w.heap.size w w' := by
  have bx := Box.new w n a zs.length cap 26
  have ia := hi.below (bel1 w (.cells #[.int .i64 n, .slice a zs.length cap] 26))
  clear hi
  by_cases hv : vsB n zs = false
  · have HV := hide (inB_false (x := x) hv)
    go_enter Try.func32, Try.ntmps32
    go_wp2_with fail
    refine (implValidSpace_any _ _ _ _ _ ia hn).mono ?_
    rintro e w1 ⟨rfl, hb⟩
    go_wp2
    go_ret
    exact ⟨ret_bool HV.out.symm, bnext (bel1 w _) hb⟩
  · have hv : vsB n zs = true := by simpa using hv
    have HV := hide (inB_true (x := x) hv)
    go_enter Try.func32, Try.ntmps32
    go_wp2_with fail
    refine (implValidSpace_any _ _ _ _ _ ia hn).mono ?_
    rintro e w1 ⟨rfl, hb⟩
    obtain ⟨_, c0, c1⟩ := bx.below hb
    go_wp2_with fail
    refine (contains_any _ _ _ _ _ (ia.below hb) hn).mono ?_
    rintro e w2 ⟨rfl, hb2⟩
    go_wp2
    go_ret
    exact ⟨ret_bool HV.out.symm, bnext (bnext (bel1 w _) hb) hb2⟩
end Go.Proofs.Ytbnnblfgpdfmpaa

/- ListLaw: What the walks of the laws on lists share. -/
namespace Go.Proofs.Ytbnnblfgpdfmpaa
open Go.RowKit Go.Joins

theorem eqIntS_yes (a b : Option Addr) (ca cb : Nat) (xs : List Int) (w : World) (hx : Ints w a xs) (hy : Ints w b xs) (hn : xs.length ≤ 1048576) :
    Calls Try.prog 45 #[.slice a xs.length ca, .slice b xs.length cb] w fun e w' => e = .returned (.bool true) ∧ Below w.heap.size w w' :=
  (eqIntS_any a b ca cb xs xs w hx hy hn).mono fun _ _ ⟨he, hb⟩ => ⟨he.trans (ret_bool (by simp)), hb⟩
theorem eqSpace_yes (n : Int) (a b : Option Addr) (ca cb : Nat) (xs : List Int) (w : World) (hx : Ints w a xs) (hy : Ints w b xs) (hn : xs.length ≤ 1048576) :
    Calls Try.prog 15 #[.agg #[.int .i64 n, .slice a xs.length ca], .agg #[.int .i64 n, .slice b xs.length cb]] w fun e w' => e = .returned (.bool true) ∧ Below w.heap.size w w' :=
  (eqSpace_any n n a b ca cb xs xs w hx hy hn).mono fun _ _ ⟨he, hb⟩ => ⟨he.trans (ret_bool (by simp)), hb⟩
theorem Box.pair {w : World} {g : Nat} {n : Int} {a : Option Addr} {len cap : Nat} (h : Box w g n a len cap) : g < w.heap.size ∧ w.cell? ⟨g, 0, none⟩ = some (.int .i64 n) ∧ w.cell? ⟨g, 1, none⟩ = some (.slice a len cap) := h
theorem held_yes (a : Option Addr) (cap n : Nat) (k : Int) (w : World) (hi : Ints w a (marks k n)) (hn : n ≤ 1048576) (h0 : 0 ≤ k) (h1 : k ≤ 4194304) :
    Calls Try.prog 47 #[.slice a n cap, .int .i64 k] w fun e w' => e = .returned (.int .i64 (k + n)) ∧ Below w.heap.size w w' := by
  have h := heldIntS_any a cap (marks k n) k w hi (by rw [marks_length]; exact hn) h0 h1 (by rw [marks_length])
  rwa [marks_length] at h

end Go.Proofs.Ytbnnblfgpdfmpaa

/- JoinW: impl.joinedOnce: its walks. -/
namespace Go.Proofs.Ytbnnblfgpdfmpaa
open Go.RowKit Go.Joins

theorem mostOfThree_any (x y z : Nat) (w : World) (hx : x < 16) (hy : y < 16) (hz : z < 16) : Calls Try.prog 51 #[.int .i64 x, .int .i64 y, .int .i64 z] w fun e w' => e = .returned (.int .i64 (med x y z : Nat)) ∧ w = w' := by
  have h1 := and_small x y hx hy
  have h2 := and_small x z hx hz
  have h3 := and_small y z hy hz
  have l1 : x &&& y < 16 := Nat.and_lt_two_pow (n := 4) _ hy
  have l2 : x &&& z < 16 := Nat.and_lt_two_pow (n := 4) _ hz
  have l3 : y &&& z < 16 := Nat.and_lt_two_pow (n := 4) _ hz
  have h4 := or_small _ _ l1 l2
  have h5 := or_small (x &&& y ||| x &&& z) (y &&& z) (Nat.or_lt_two_pow (n := 4) l1 l2) l3
  go_enter Try.func51, Try.ntmps51
  go_wp2
  go_ret
  exact ⟨rfl, rfl⟩

set_option maxHeartbeats 4000000 in
set_option maxRecDepth 100000 in
theorem joinedMed_any (a : Option Addr) (cap : Nat) (zs : List Int) (w : World) (hi : Ints w a zs) (hn : zs.length ≤ 1048576) (hcap : zs.length ≤ cap) (hr : ∀ x ∈ zs, 0 ≤ x ∧ x ≤ 15) :
    Calls Try.prog 50 #[.slice a zs.length cap, .func (.func 51) #[] #[]] w (Gives (joinL med zs) w) := by
  obtain ⟨i0, hi0, hz0, hz1, hz2⟩ := info_parts info_int
  have HR := hide hr
  clear hr
  go_enter Try.func50, Try.ntmps50
  go_wp2_with fail
  go_loopw [17] (fun c wr => ∃ i : Nat, i ≤ zs.length ∧ c = .int .i64 i ∧ Marks wr w.heap.size (MarkA med zs i) ∧ Below w.heap.size w wr ∧ w.heap.size < wr.heap.size) (fun c _ => zs.length - (intOf c).toNat)
  case atStart => exact ⟨0, Nat.zero_le _, rfl, Marks.new w (MarkA med zs 0) (fun t => markA_zero _ _ t), bel1 w _, by simp⟩
  case round =>
    obtain ⟨i, hile, rfl, hM, BR, hg⟩ := hrel
    by_cases hlt : i < zs.length
    · obtain ⟨b, off, rfl, hbl, hc⟩ := hi (by omega)
      have hx := (BR.cell (p := ⟨b, off + i, none⟩) hbl).trans (hc i hlt)
      rw [getD_lt hlt] at hx
      have rx := HR.out _ (mem_of_at hlt)
      obtain ⟨x, hxe⟩ := Int.eq_ofNat_of_zero_le rx.1
      have hx15 : x < 16 := by omega
      have hzx : zN zs i = x := by unfold zN; rw [getD_lt hlt, hxe]; rfl
      rw [hxe] at hx
      obtain ⟨ob, hcell, hfz⟩ := hM.cell hx15
      have hM2 := hide ((hM.set_ hx15).iff_ (fun t => (by rw [← hzx]; exact (markB_start med zs i t).symm : (MarkA med zs i t ∨ t = x) ↔ MarkB med zs i 0 t)))
      have B2 : Below w.heap.size w (wr.setCell ⟨w.heap.size, x, none⟩ (.bool true)) := BR.setCell (p := ⟨w.heap.size, x, none⟩) (Nat.le_refl _) _
      have hg2 : w.heap.size < (wr.setCell ⟨w.heap.size, x, none⟩ (.bool true)).heap.size := by simpa [World.setCell] using hg
      have HX := hide (And.intro hxe hzx)
      have HC := hide hc
      clear hxe hzx rx hM hc
      go_wp2
      clear hcell hfz BR hg hx
      obtain ⟨wo, hwo⟩ : ∃ wo : World, wo = wr.setCell ⟨w.heap.size, x, none⟩ (.bool true) := ⟨_, rfl⟩
      rw [← hwo] at hM2 B2 hg2 ⊢
      clear hwo
      go_loopw [28] (fun c wr => ∃ j : Nat, j ≤ i ∧ c = .int .i64 j ∧ Marks wr w.heap.size (MarkB med zs i j) ∧ Below w.heap.size w wr ∧ w.heap.size < wr.heap.size) (fun c _ => i - (intOf c).toNat)
      case atStart => exact ⟨0, Nat.zero_le _, rfl, hM2.out, B2, hg2⟩
      case round =>
        clear hM2 B2 hg2
        obtain ⟨j, hji, rfl, hM, BR, hg⟩ := hrel
        by_cases hlj : j < i
        · have hjl : j < zs.length := by omega
          have hy := (BR.cell (p := ⟨b, off + j, none⟩) hbl).trans (HC.out j hjl)
          rw [getD_lt hjl] at hy
          have ry := HR.out _ (mem_of_at hjl)
          obtain ⟨y, hye⟩ := Int.eq_ofNat_of_zero_le ry.1
          have hy15 : y < 16 := by omega
          have hzy : zN zs j = y := by unfold zN; rw [getD_lt hjl, hye]; rfl
          rw [hye] at hy
          have HY := hide (And.intro hye hzy)
          have hM2 := hide (hM.iff_ (fun t => (markC_start med zs i j t).symm))
          clear hye hzy ry hM
          go_wp2
          obtain ⟨wi, rfl⟩ : ∃ wi : World, wi = wr := ⟨_, rfl⟩
          go_loopw [37] (fun c wr => ∃ k : Nat, k ≤ j ∧ c = .int .i64 k ∧ Marks wr w.heap.size (MarkC med zs i j k) ∧ Below w.heap.size w wr ∧ w.heap.size < wr.heap.size) (fun c _ => j - (intOf c).toNat)
          case atStart => exact ⟨0, Nat.zero_le _, rfl, hM2.out, BR, hg⟩
          case round =>
            clear hM2 BR hg hy
            obtain ⟨k, hkj, rfl, hM, BR, hg⟩ := hrel
            by_cases hlk : k < j
            · have hkl : k < zs.length := by omega
              have hz := (BR.cell (p := ⟨b, off + k, none⟩) hbl).trans (HC.out k hkl)
              rw [getD_lt hkl] at hz
              have rz := HR.out _ (mem_of_at hkl)
              obtain ⟨z, hze⟩ := Int.eq_ofNat_of_zero_le rz.1
              have hz15 : z < 16 := by omega
              have hzz : zN zs k = z := by unfold zN; rw [getD_lt hkl, hze]; rfl
              rw [hze] at hz
              have hf15 := join_med.lt x y z hx15 hy15 hz15
              obtain ⟨ob, hcell, hfz⟩ := hM.cell hf15
              have hM2 := hide ((hM.set_ hf15).iff_ (fun t => (by rw [markC_step, HX.out.2, HY.out.2, hzz] : (MarkC med zs i j k t ∨ t = med x y z) ↔ MarkC med zs i j (k + 1) t)))
              have B2 : Below w.heap.size w (wr.setCell ⟨w.heap.size, med x y z, none⟩ (.bool true)) := BR.setCell (p := ⟨w.heap.size, med x y z, none⟩) (Nat.le_refl _) _
              have hg2 : w.heap.size < (wr.setCell ⟨w.heap.size, med x y z, none⟩ (.bool true)).heap.size := by simpa [World.setCell] using hg
              clear hze hzz rz hM
              go_wp2_with fail
              refine (mostOfThree_any x y z _ hx15 hy15 hz15).mono ?_
              rintro e w' ⟨rfl, rfl⟩
              go_wp2
              go_roundw
              case rel => exact ⟨k + 1, by omega, by go_num, hM2.out, B2, hg2⟩
              case measure => simp only [intOf]; omega
            · obtain rfl : k = j := by omega
              have hM2 := hide (hM.iff_ (fun t => markC_end med zs i k t))
              clear hM
              go_wp2
              go_roundw
              case rel => exact ⟨k + 1, by omega, by go_num, hM2.out, BR, hg⟩
              case measure => simp only [intOf]; omega
        · obtain rfl : j = i := by omega
          have hM2 := hide (hM.iff_ (fun t => markB_end med zs j t))
          clear hM
          go_wp2
          go_roundw
          case rel => exact ⟨j + 1, by omega, by go_num, hM2.out, BR, hg⟩
          case measure => simp only [intOf]; omega
    · obtain rfl : i = zs.length := by omega
      obtain ⟨hs, hl16, hblk, hiff⟩ := hM
      have HI := hide hiff
      have hinfo : (Try.prog.info? 72).map (·.size) = some (hs.map Value.bool).toArray.size := (by kernel_rfl : (Try.prog.info? 72).map (·.size) = some 16).trans (by simp [hl16])
      have hidx := index_marks hs hl16
      have HL16 := hide hl16
      clear hiff hl16 hlt hile
      go_wp2_with (refine wpList_load_row rfl 72 _ rfl w.heap.size rfl 72 _ (0, 0) _ hblk Try.underlying72 rfl hinfo ?_)
      obtain ⟨wo, rfl⟩ : ∃ wo : World, wo = wr := ⟨_, rfl⟩
      go_loopw [12, 51] (fun v c wr => ∃ t : Nat, t ≤ 16 ∧ c = .int .i64 t ∧ Owns wr wo.heap.size v (((List.range t).filter fun u => hs.getD u false).map fun (u : Nat) => (u : Int)) ∧ Below wo.heap.size wo wr) (fun _ c _ => 16 - (intOf c).toNat)
      case atStart => exact ⟨0, Nat.zero_le _, rfl, World.ownsRow_nil _ _ _ _, Below.refl _ _⟩
      case round =>
        obtain ⟨t, ht, rfl, hown, BW⟩ := hrel
        by_cases hlt : t < 16
        · have hit := hidx t hlt
          have hsz := BW.size
          have hlen : (((List.range t).filter fun u => hs.getD u false).map fun (u : Nat) => (u : Int)).length ≤ t := by
            rw [List.length_map]; exact Nat.le_trans (List.length_filter_le _ _) (by simp)
          have hnext := hide (range_filter (fun u => hs.getD u false) t)
          clear hidx
          by_cases hb : hs.getD t false = true
          · have HB := hide hb
            rw [hb] at hit
            clear hb
            go_wp2_with ((at_builtin; refine wpList_append_own _ rfl _ _ 22 rfl wo.heap.size 3 i0 (.int .i64 0) 1 8 Try.underlying22 hi0 hz0 hz1 hz2 rfl (by decide) _ _ _ rfl (hown.alloc _) ⟨wr.heap.size, 0, none⟩ 1 1 [.int .i64 t] rfl rfl ?c1 ?c2 ?c3 ?c4 ?c5 ?_))
            case c1 => exact cell_one_new wr _ _
            case c2 => intro u hu; simp at hu; subst hu; rfl
            case c3 => unfold maxLen; omega
            case c4 => omega
            case c5 => simp; omega
            intro v' w2 hown' hgrow _
            have hpush : Hid (Owns w2 wo.heap.size v' ((((List.range t).filter fun u => hs.getD u false).map fun (u : Nat) => (u : Int)) ++ [(t : Int)])) := by unfold Hid Owns; simpa [Function.comp_def] using hown'
            have hbel : Below wo.heap.size wo w2 := (BW.alloc hsz _).grown hgrow (by simp; omega) (fun j hj => own_ge hown j hj)
            clear hown' hgrow hown
            go_wp2
            go_roundw
            case rel => exact ⟨t + 1, by omega, by go_num, by rw [hnext.out, if_pos HB.out]; exact hpush.out, hbel⟩
            case measure => simp only [intOf]; omega
          · have hb : hs.getD t false = false := by simpa using hb
            have HB := hide hb
            rw [hb] at hit
            clear hb
            go_wp2
            go_roundw
            case rel => exact ⟨t + 1, by omega, by go_num, by rw [hnext.out, if_neg (by rw [HB.out]; decide), List.append_nil]; exact hown, BW⟩
            case measure => simp only [intOf]; omega
        · obtain rfl : t = 16 := by omega
          go_wp2
          go_ret
          refine ⟨_, rfl, ?_, bnext BR BW⟩
          have he : (((List.range 16).filter fun u => hs.getD u false).map fun (u : Nat) => (u : Int)) = joinL med zs := by
            unfold joinL joined
            congr 1
            refine List.filter_congr (fun u hu => ?_)
            rw [Bool.eq_iff_iff, HI.out u (List.mem_range.1 hu), markA_all]
            simp
          rw [← he]
          exact hown.le BR.size
end Go.Proofs.Ytbnnblfgpdfmpaa

/- JoinP: impl.joinedOnce with sumOfThree. -/
namespace Go.Proofs.Ytbnnblfgpdfmpaa
open Go.RowKit Go.Joins

theorem sumOfThree_any (x y z : Nat) (w : World) (hx : x < 16) (hy : y < 16) (hz : z < 16) : Calls Try.prog 52 #[.int .i64 x, .int .i64 y, .int .i64 z] w fun e w' => e = .returned (.int .i64 (par x y z : Nat)) ∧ w = w' := by
  have h1 := xor_small x y hx hy
  have l1 : x ^^^ y < 16 := Nat.xor_lt_two_pow (n := 4) hx hy
  have h2 : bits .xor .i64 ((x ^^^ y : Nat) : Int) (z : Int) = ((par x y z : Nat) : Int) := xor_small _ _ l1 hz
  go_enter Try.func52, Try.ntmps52
  go_wp2
  go_ret
  exact ⟨rfl, rfl⟩

set_option maxHeartbeats 4000000 in
set_option maxRecDepth 100000 in
theorem joinedPar_any (a : Option Addr) (cap : Nat) (zs : List Int) (w : World) (hi : Ints w a zs) (hn : zs.length ≤ 1048576) (hcap : zs.length ≤ cap) (hr : ∀ x ∈ zs, 0 ≤ x ∧ x ≤ 15) :
    Calls Try.prog 50 #[.slice a zs.length cap, .func (.func 52) #[] #[]] w (Gives (joinL par zs) w) := by
  obtain ⟨i0, hi0, hz0, hz1, hz2⟩ := info_parts info_int
  have HR := hide hr
  clear hr
  go_enter Try.func50, Try.ntmps50
  go_wp2_with fail
  go_loopw [17] (fun c wr => ∃ i : Nat, i ≤ zs.length ∧ c = .int .i64 i ∧ Marks wr w.heap.size (MarkA par zs i) ∧ Below w.heap.size w wr ∧ w.heap.size < wr.heap.size) (fun c _ => zs.length - (intOf c).toNat)
  case atStart => exact ⟨0, Nat.zero_le _, rfl, Marks.new w (MarkA par zs 0) (fun t => markA_zero _ _ t), bel1 w _, by simp⟩
  case round =>
    obtain ⟨i, hile, rfl, hM, BR, hg⟩ := hrel
    by_cases hlt : i < zs.length
    · obtain ⟨b, off, rfl, hbl, hc⟩ := hi (by omega)
      have hx := (BR.cell (p := ⟨b, off + i, none⟩) hbl).trans (hc i hlt)
      rw [getD_lt hlt] at hx
      have rx := HR.out _ (mem_of_at hlt)
      obtain ⟨x, hxe⟩ := Int.eq_ofNat_of_zero_le rx.1
      have hx15 : x < 16 := by omega
      have hzx : zN zs i = x := by unfold zN; rw [getD_lt hlt, hxe]; rfl
      rw [hxe] at hx
      obtain ⟨ob, hcell, hfz⟩ := hM.cell hx15
      have hM2 := hide ((hM.set_ hx15).iff_ (fun t => (by rw [← hzx]; exact (markB_start par zs i t).symm : (MarkA par zs i t ∨ t = x) ↔ MarkB par zs i 0 t)))
      have B2 : Below w.heap.size w (wr.setCell ⟨w.heap.size, x, none⟩ (.bool true)) := BR.setCell (p := ⟨w.heap.size, x, none⟩) (Nat.le_refl _) _
      have hg2 : w.heap.size < (wr.setCell ⟨w.heap.size, x, none⟩ (.bool true)).heap.size := by simpa [World.setCell] using hg
      have HX := hide (And.intro hxe hzx)
      have HC := hide hc
      clear hxe hzx rx hM hc
      go_wp2
      clear hcell hfz BR hg hx
      obtain ⟨wo, hwo⟩ : ∃ wo : World, wo = wr.setCell ⟨w.heap.size, x, none⟩ (.bool true) := ⟨_, rfl⟩
      rw [← hwo] at hM2 B2 hg2 ⊢
      clear hwo
      go_loopw [28] (fun c wr => ∃ j : Nat, j ≤ i ∧ c = .int .i64 j ∧ Marks wr w.heap.size (MarkB par zs i j) ∧ Below w.heap.size w wr ∧ w.heap.size < wr.heap.size) (fun c _ => i - (intOf c).toNat)
      case atStart => exact ⟨0, Nat.zero_le _, rfl, hM2.out, B2, hg2⟩
      case round =>
        clear hM2 B2 hg2
        obtain ⟨j, hji, rfl, hM, BR, hg⟩ := hrel
        by_cases hlj : j < i
        · have hjl : j < zs.length := by omega
          have hy := (BR.cell (p := ⟨b, off + j, none⟩) hbl).trans (HC.out j hjl)
          rw [getD_lt hjl] at hy
          have ry := HR.out _ (mem_of_at hjl)
          obtain ⟨y, hye⟩ := Int.eq_ofNat_of_zero_le ry.1
          have hy15 : y < 16 := by omega
          have hzy : zN zs j = y := by unfold zN; rw [getD_lt hjl, hye]; rfl
          rw [hye] at hy
          have HY := hide (And.intro hye hzy)
          have hM2 := hide (hM.iff_ (fun t => (markC_start par zs i j t).symm))
          clear hye hzy ry hM
          go_wp2
          obtain ⟨wi, rfl⟩ : ∃ wi : World, wi = wr := ⟨_, rfl⟩
          go_loopw [37] (fun c wr => ∃ k : Nat, k ≤ j ∧ c = .int .i64 k ∧ Marks wr w.heap.size (MarkC par zs i j k) ∧ Below w.heap.size w wr ∧ w.heap.size < wr.heap.size) (fun c _ => j - (intOf c).toNat)
          case atStart => exact ⟨0, Nat.zero_le _, rfl, hM2.out, BR, hg⟩
          case round =>
            clear hM2 BR hg hy
            obtain ⟨k, hkj, rfl, hM, BR, hg⟩ := hrel
            by_cases hlk : k < j
            · have hkl : k < zs.length := by omega
              have hz := (BR.cell (p := ⟨b, off + k, none⟩) hbl).trans (HC.out k hkl)
              rw [getD_lt hkl] at hz
              have rz := HR.out _ (mem_of_at hkl)
              obtain ⟨z, hze⟩ := Int.eq_ofNat_of_zero_le rz.1
              have hz15 : z < 16 := by omega
              have hzz : zN zs k = z := by unfold zN; rw [getD_lt hkl, hze]; rfl
              rw [hze] at hz
              have hf15 := join_par.lt x y z hx15 hy15 hz15
              obtain ⟨ob, hcell, hfz⟩ := hM.cell hf15
              have hM2 := hide ((hM.set_ hf15).iff_ (fun t => (by rw [markC_step, HX.out.2, HY.out.2, hzz] : (MarkC par zs i j k t ∨ t = par x y z) ↔ MarkC par zs i j (k + 1) t)))
              have B2 : Below w.heap.size w (wr.setCell ⟨w.heap.size, par x y z, none⟩ (.bool true)) := BR.setCell (p := ⟨w.heap.size, par x y z, none⟩) (Nat.le_refl _) _
              have hg2 : w.heap.size < (wr.setCell ⟨w.heap.size, par x y z, none⟩ (.bool true)).heap.size := by simpa [World.setCell] using hg
              clear hze hzz rz hM
              go_wp2_with fail
              refine (sumOfThree_any x y z _ hx15 hy15 hz15).mono ?_
              rintro e w' ⟨rfl, rfl⟩
              go_wp2
              go_roundw
              case rel => exact ⟨k + 1, by omega, by go_num, hM2.out, B2, hg2⟩
              case measure => simp only [intOf]; omega
            · obtain rfl : k = j := by omega
              have hM2 := hide (hM.iff_ (fun t => markC_end par zs i k t))
              clear hM
              go_wp2
              go_roundw
              case rel => exact ⟨k + 1, by omega, by go_num, hM2.out, BR, hg⟩
              case measure => simp only [intOf]; omega
        · obtain rfl : j = i := by omega
          have hM2 := hide (hM.iff_ (fun t => markB_end par zs j t))
          clear hM
          go_wp2
          go_roundw
          case rel => exact ⟨j + 1, by omega, by go_num, hM2.out, BR, hg⟩
          case measure => simp only [intOf]; omega
    · obtain rfl : i = zs.length := by omega
      obtain ⟨hs, hl16, hblk, hiff⟩ := hM
      have HI := hide hiff
      have hinfo : (Try.prog.info? 72).map (·.size) = some (hs.map Value.bool).toArray.size := (by kernel_rfl : (Try.prog.info? 72).map (·.size) = some 16).trans (by simp [hl16])
      have hidx := index_marks hs hl16
      have HL16 := hide hl16
      clear hiff hl16 hlt hile
      go_wp2_with (refine wpList_load_row rfl 72 _ rfl w.heap.size rfl 72 _ (0, 0) _ hblk Try.underlying72 rfl hinfo ?_)
      obtain ⟨wo, rfl⟩ : ∃ wo : World, wo = wr := ⟨_, rfl⟩
      go_loopw [12, 51] (fun v c wr => ∃ t : Nat, t ≤ 16 ∧ c = .int .i64 t ∧ Owns wr wo.heap.size v (((List.range t).filter fun u => hs.getD u false).map fun (u : Nat) => (u : Int)) ∧ Below wo.heap.size wo wr) (fun _ c _ => 16 - (intOf c).toNat)
      case atStart => exact ⟨0, Nat.zero_le _, rfl, World.ownsRow_nil _ _ _ _, Below.refl _ _⟩
      case round =>
        obtain ⟨t, ht, rfl, hown, BW⟩ := hrel
        by_cases hlt : t < 16
        · have hit := hidx t hlt
          have hsz := BW.size
          have hlen : (((List.range t).filter fun u => hs.getD u false).map fun (u : Nat) => (u : Int)).length ≤ t := by
            rw [List.length_map]; exact Nat.le_trans (List.length_filter_le _ _) (by simp)
          have hnext := hide (range_filter (fun u => hs.getD u false) t)
          clear hidx
          by_cases hb : hs.getD t false = true
          · have HB := hide hb
            rw [hb] at hit
            clear hb
            go_wp2_with ((at_builtin; refine wpList_append_own _ rfl _ _ 22 rfl wo.heap.size 3 i0 (.int .i64 0) 1 8 Try.underlying22 hi0 hz0 hz1 hz2 rfl (by decide) _ _ _ rfl (hown.alloc _) ⟨wr.heap.size, 0, none⟩ 1 1 [.int .i64 t] rfl rfl ?c1 ?c2 ?c3 ?c4 ?c5 ?_))
            case c1 => exact cell_one_new wr _ _
            case c2 => intro u hu; simp at hu; subst hu; rfl
            case c3 => unfold maxLen; omega
            case c4 => omega
            case c5 => simp; omega
            intro v' w2 hown' hgrow _
            have hpush : Hid (Owns w2 wo.heap.size v' ((((List.range t).filter fun u => hs.getD u false).map fun (u : Nat) => (u : Int)) ++ [(t : Int)])) := by unfold Hid Owns; simpa [Function.comp_def] using hown'
            have hbel : Below wo.heap.size wo w2 := (BW.alloc hsz _).grown hgrow (by simp; omega) (fun j hj => own_ge hown j hj)
            clear hown' hgrow hown
            go_wp2
            go_roundw
            case rel => exact ⟨t + 1, by omega, by go_num, by rw [hnext.out, if_pos HB.out]; exact hpush.out, hbel⟩
            case measure => simp only [intOf]; omega
          · have hb : hs.getD t false = false := by simpa using hb
            have HB := hide hb
            rw [hb] at hit
            clear hb
            go_wp2
            go_roundw
            case rel => exact ⟨t + 1, by omega, by go_num, by rw [hnext.out, if_neg (by rw [HB.out]; decide), List.append_nil]; exact hown, BW⟩
            case measure => simp only [intOf]; omega
        · obtain rfl : t = 16 := by omega
          go_wp2
          go_ret
          refine ⟨_, rfl, ?_, bnext BR BW⟩
          have he : (((List.range 16).filter fun u => hs.getD u false).map fun (u : Nat) => (u : Int)) = joinL par zs := by
            unfold joinL joined
            congr 1
            refine List.filter_congr (fun u hu => ?_)
            rw [Bool.eq_iff_iff, HI.out u (List.mem_range.1 hu), markA_all]
            simp
          rw [← he]
          exact hown.le BR.size
end Go.Proofs.Ytbnnblfgpdfmpaa

/- Clo: Least closed spaces: the plain list; impl.closureOf, MedianClosure, EvenClosure. -/
namespace Go.Proofs.Ytbnnblfgpdfmpaa
open Go.RowKit Go.Joins

/-- what three make is added, k times at most -/
def cloK (f : Nat → Nat → Nat → Nat) : Nat → List Nat → List Nat
  | 0, l => joined f l
  | k + 1, l => if (joined f l).length = l.length then joined f l else cloK f k (joined f l)
def clo (f : Nat → Nat → Nat → Nat) (l : List Nat) : List Nat := cloK f (16 - l.length) l
theorem joined_le (f : Nat → Nat → Nat → Nat) (l : List Nat) : (joined f l).length ≤ 16 := by
  unfold joined
  exact Nat.le_trans (List.length_filter_le _ _) (by simp)
theorem joined_ge (f : Nat → Nat → Nat → Nat) (l : List Nat) (h : Asc l) (hl : ∀ x ∈ l, x < 16) : l.length ≤ (joined f l).length := by
  have := filter_length_le (fun x => l.contains x || decide (Made f l x)) (fun x => l.contains x) (fun x (hx : l.contains x = true) => show (l.contains x || decide (Made f l x)) = true by rw [hx]; rfl) (List.range 16)
  rw [asc_range_filter l 16 h hl] at this
  exact this
theorem joined_lt (f : Nat → Nat → Nat → Nat) (l : List Nat) : ∀ x ∈ joined f l, x < 16 := fun x hx => by
  unfold joined at hx
  exact List.mem_range.1 (List.mem_filter.1 hx).1
theorem cloK_stop {f : Nat → Nat → Nat → Nat} {l : List Nat} (h : (joined f l).length = l.length) : ∀ k, cloK f k l = joined f l
  | 0 => rfl
  | k + 1 => by rw [cloK, if_pos h]
theorem cloK_more (f : Nat → Nat → Nat → Nat) : ∀ (k : Nat) (l : List Nat), Asc l → (∀ x ∈ l, x < 16) → 16 - l.length ≤ k → cloK f (k + 1) l = cloK f k l
  | 0, l, ha, hl, hk => by
    have h1 := joined_le f l
    have h2 := joined_ge f l ha hl
    have h : (joined f l).length = l.length := by omega
    rw [cloK_stop h, cloK_stop h]
  | k + 1, l, ha, hl, hk => by
    by_cases h : (joined f l).length = l.length
    · rw [cloK_stop h, cloK_stop h]
    · have h2 := joined_ge f l ha hl
      rw [cloK, if_neg h, cloK_more f k (joined f l) (joined_asc f l) (joined_lt f l) (by omega)]
      rw [cloK, if_neg h]
theorem cloK_enough (f : Nat → Nat → Nat → Nat) (l : List Nat) (ha : Asc l) (hl : ∀ x ∈ l, x < 16) (d : Nat) : cloK f (16 - l.length + d) l = clo f l := by
  induction d with
  | zero => rfl
  | succ d ih => rw [← Nat.add_assoc, cloK_more f _ l ha hl (by omega), ih]
theorem clo_stop {f : Nat → Nat → Nat → Nat} {l : List Nat} (h : (joined f l).length = l.length) : clo f l = joined f l := cloK_stop h _
theorem clo_go {f : Nat → Nat → Nat → Nat} {l : List Nat} (ha : Asc l) (hl : ∀ x ∈ l, x < 16) (h : (joined f l).length ≠ l.length) : clo f l = clo f (joined f l) := by
  have h1 := joined_le f l
  have h2 := joined_ge f l ha hl
  have e1 : clo f l = cloK f (16 - l.length - 1) (joined f l) := by
    have e : 16 - l.length = (16 - l.length - 1) + 1 := by omega
    unfold clo
    rw [e, cloK, if_neg h]
    rfl
  have e2 := cloK_enough f (joined f l) (joined_asc f l) (joined_lt f l) (16 - l.length - 1 - (16 - (joined f l).length))
  rw [e1, ← e2]
  congr 1
  omega

/-- a list of judgments, as the closures hold it -/
def JL (ls : List Int) : Prop := (∀ x ∈ ls, 0 ≤ x ∧ x ≤ 15) ∧ Asc (ls.map Int.toNat) ∧ ls.length ≤ 16
theorem JL.lt {ls : List Int} (h : JL ls) : ∀ x ∈ ls.map Int.toNat, x < 16 := by
  intro x hx
  obtain ⟨y, hy, rfl⟩ := List.mem_map.1 hx
  have := h.1 y hy
  omega
theorem cast_toNat (l : List Nat) : (l.map fun (t : Nat) => (t : Int)).map Int.toNat = l := by
  rw [List.map_map]
  exact (List.map_congr_left (fun _ _ => by simp)).trans (List.map_id l)
theorem joinL_toNat (f : Nat → Nat → Nat → Nat) (zs : List Int) : (joinL f zs).map Int.toNat = joined f (zs.map Int.toNat) := cast_toNat _
theorem joinL_length (f : Nat → Nat → Nat → Nat) (zs : List Int) : (joinL f zs).length = (joined f (zs.map Int.toNat)).length := by unfold joinL; rw [List.length_map]
theorem JL.join (f : Nat → Nat → Nat → Nat) (zs : List Int) : JL (joinL f zs) := by
  refine ⟨fun x hx => ?_, by rw [joinL_toNat]; exact joined_asc _ _, by rw [joinL_length]; exact joined_le _ _⟩
  unfold joinL at hx
  obtain ⟨t, ht, rfl⟩ := List.mem_map.1 hx
  have := joined_lt f _ t ht
  omega
theorem asc_len16 {l : List Nat} (h : Asc l) (hl : ∀ x ∈ l, x < 16) : l.length ≤ 16 := by
  rw [← asc_range_filter l 16 h hl]
  exact Nat.le_trans (List.length_filter_le _ _) (by simp)
theorem asc_ofValid {n : Int} {zs : List Int} (h : Valid n zs) : ∀ i j, i < j → j < zs.length → zs.getD i 0 < zs.getD j 0 := by
  intro i j hij hj
  induction j with
  | zero => omega
  | succ j ih =>
    have hs := (h.2.2 (j + 1) hj).2 (by omega)
    rw [Nat.add_sub_cancel] at hs
    rcases Nat.lt_or_ge i j with h1 | h1
    · have := ih h1 (by omega)
      omega
    · obtain rfl : i = j := by omega
      exact hs
theorem JL.valid {n : Int} {zs : List Int} (h : Valid n zs) : JL zs := by
  have hr := valid_range h
  have ha : Asc (zs.map Int.toNat) := by
    unfold Asc
    rw [List.pairwise_iff_getElem]
    intro i j hi hj hij
    simp only [List.length_map] at hi hj
    have h1 := asc_ofValid h i j hij hj
    rw [getD_lt hi, getD_lt hj] at h1
    have h2 := hr _ (mem_of_at hi)
    simp only [List.getElem_map]
    omega
  have hl := asc_len16 ha (fun x hx => by
    obtain ⟨y, hy, rfl⟩ := List.mem_map.1 hx
    have := hr y hy
    omega)
  exact ⟨hr, ha, by simpa using hl⟩
/-- the least closed list -/
def cloT (f : Nat → Nat → Nat → Nat) (ls : List Int) : List Int := (clo f (ls.map Int.toNat)).map fun (t : Nat) => (t : Int)
theorem cloT_stop {f : Nat → Nat → Nat → Nat} {ls : List Int} (h : (joinL f ls).length = ls.length) : cloT f ls = joinL f ls := by
  unfold cloT
  rw [clo_stop (by rw [← joinL_length, h, List.length_map])]
  rfl
theorem cloT_go {f : Nat → Nat → Nat → Nat} {ls : List Int} (hJ : JL ls) (h : (joinL f ls).length ≠ ls.length) : cloT f (joinL f ls) = cloT f ls := by
  unfold cloT
  rw [joinL_toNat, ← clo_go hJ.2.1 hJ.lt (by rw [← joinL_length, List.length_map]; exact h)]
theorem joinL_more {f : Nat → Nat → Nat → Nat} {ls : List Int} (hJ : JL ls) (h : (joinL f ls).length ≠ ls.length) : ls.length < (joinL f ls).length := by
  have := joined_ge f _ hJ.2.1 hJ.lt
  rw [← joinL_length, List.length_map] at this
  omega

def cloN (n : Int) (zs : List Int) : Int := if vsB n zs = true then n else 0
def cloL (f : Nat → Nat → Nat → Nat) (n : Int) (zs : List Int) : List Int := if vsB n zs = true then cloT f zs else []
theorem cloN_yes {n : Int} {zs : List Int} (h : vsB n zs = true) : cloN n zs = n := if_pos h
theorem cloL_yes {f : Nat → Nat → Nat → Nat} {n : Int} {zs : List Int} (h : vsB n zs = true) : cloL f n zs = cloT f zs := if_pos h
theorem cloN_no {n : Int} {zs : List Int} (h : vsB n zs = false) : cloN n zs = 0 := if_neg (by rw [h]; decide)
theorem cloL_no {f : Nat → Nat → Nat → Nat} {n : Int} {zs : List Int} (h : vsB n zs = false) : cloL f n zs = [] := if_neg (by rw [h]; decide)

theorem cloK_le (f : Nat → Nat → Nat → Nat) : ∀ (k : Nat) (l : List Nat), (cloK f k l).length ≤ 16
  | 0, l => joined_le f l
  | k + 1, l => by
    rw [cloK]
    split
    · exact joined_le f l
    · exact cloK_le f k _
theorem cloL_len (f : Nat → Nat → Nat → Nat) (n : Int) (zs : List Int) : (cloL f n zs).length ≤ 1048576 := by
  unfold cloL
  split
  · unfold cloT
    rw [List.length_map]
    exact Nat.le_trans (cloK_le f _ _) (by omega)
  · simp

/-- a space in a variable, and the answer's cells -/
def RV (w0 : World) (n : Int) (a : Option Addr) (zs : List Int) (cap : Nat) (wx : World) : Prop :=
  Box wx w0.heap.size n a zs.length cap ∧ Ints wx a zs ∧ wx.heap[w0.heap.size + 1]? = some (.cells #[.int .i64 0, .slice none 0 0] 26 (0, 0)) ∧ Below w0.heap.size w0 wx
theorem RV.below {w0 wx wy : World} {n : Int} {a : Option Addr} {zs : List Int} {cap : Nat} (h : RV w0 n a zs cap wx) (hb : Below wx.heap.size wx wy) : RV w0 n a zs cap wy :=
  ⟨h.1.below hb, h.2.1.below hb, (hb.block _ (lt_of_block h.2.2.1)).trans h.2.2.1, bnext h.2.2.2 hb⟩
theorem RV.new (w : World) (n : Int) (a : Option Addr) (zs : List Int) (cap : Nat) (hi : Ints w a zs) :
    RV w n a zs cap ((w.alloc (.cells #[.int .i64 n, .slice a zs.length cap] 26)).alloc (.cells #[.int .i64 0, .slice none 0 0] 26)) := by
  have b1 := Box.new w n a zs.length cap 26
  have b2 := heap_alloc_new (w.alloc (.cells #[.int .i64 n, .slice a zs.length cap] 26)) (.cells #[.int .i64 0, .slice none 0 0] 26)
  simp only [World.size_alloc] at b2
  exact ⟨b1.below (bel1 _ _), hi.below (bel2 _ _ _), b2, bel2 _ _ _⟩
theorem RV.set {w0 wx : World} {n : Int} {a : Option Addr} {zs : List Int} {cap : Nat} (h : RV w0 n a zs cap wx) (u v : Value) :
    Below w0.heap.size w0 ((wx.setCell ⟨w0.heap.size + 1, 0, none⟩ u).setCell ⟨w0.heap.size + 1, 1, none⟩ v) :=
  (h.2.2.2.setCell (p := ⟨w0.heap.size + 1, 0, none⟩) (by show w0.heap.size ≤ w0.heap.size + 1; omega) u).setCell (p := ⟨w0.heap.size + 1, 1, none⟩) (by show w0.heap.size ≤ w0.heap.size + 1; omega) v
/-- how much is to come -/
def lack : Value → Nat
  | .slice _ n _ => 16 - n
  | _ => 0
end Go.Proofs.Ytbnnblfgpdfmpaa

/- Med: IsMedian and IsEven: what they answer; the model's loops. -/
namespace Go.Proofs.Ytbnnblfgpdfmpaa
open Go.RowKit Go.Joins

theorem asc_valid {n : Int} {zs : List Int} (h : Valid n zs) : ∀ i j, i < j → j < zs.length → zs.getD i 0 < zs.getD j 0 := by
  intro i j hij hj
  induction j with
  | zero => omega
  | succ j ih =>
    have hs := (h.2.2 (j + 1) hj).2 (by omega)
    rw [Nat.add_sub_cancel] at hs
    rcases Nat.lt_or_ge i j with h1 | h1
    · have := ih h1 (by omega)
      omega
    · obtain rfl : i = j := by omega
      exact hs
theorem valid_nat {n : Int} {zs : List Int} (h : Valid n zs) : Asc (zs.map Int.toNat) ∧ (∀ x ∈ zs.map Int.toNat, x < 16) := by
  constructor
  · unfold Asc
    rw [List.pairwise_iff_getElem]
    intro i j hi hj hij
    simp only [List.length_map] at hi hj
    have h1 := asc_valid h i j hij hj
    rw [getD_lt hi, getD_lt hj] at h1
    have h2 := valid_range h _ (mem_of_at hi)
    simp only [List.getElem_map]
    omega
  · intro x hx
    obtain ⟨y, hy, rfl⟩ := List.mem_map.1 hx
    have := valid_range h y hy
    omega
/-- what IsMedian, IsEven answer -/
def closedB (f : Nat → Nat → Nat → Nat) (n : Int) (zs : List Int) : Bool := vsB n zs && ((joined f (zs.map Int.toNat)).length == zs.length)
theorem closedB_no {f : Nat → Nat → Nat → Nat} {n : Int} {zs : List Int} (h : vsB n zs = false) : closedB f n zs = false := by unfold closedB; rw [h]; rfl
/-- what three of the space make is in the space -/
def In3 (f : Nat → Nat → Nat → Nat) (zs : List Int) (i j k : Nat) : Prop := ((f (zN zs i) (zN zs j) (zN zs k) : Nat) : Int) ∈ zs
theorem closed_iff {f : Nat → Nat → Nat → Nat} (J : Join f) {n : Int} {zs : List Int} (h : Valid n zs) : closedB f n zs = true ↔ ∀ i j k, i < zs.length → j < zs.length → k < zs.length → In3 f zs i j k := by
  have ⟨ha, hlt⟩ := valid_nat h
  have hz : ∀ i, i < zs.length → (zs.map Int.toNat).getD i 0 = zN zs i := fun i hi => by
    unfold zN
    simp [List.getD_eq_getElem?_getD, hi]
  have hmem : ∀ t : Nat, t ∈ zs.map Int.toNat ↔ (t : Int) ∈ zs := fun t => by
    rw [List.mem_map]
    constructor
    · rintro ⟨y, hy, rfl⟩
      have := valid_range h y hy
      rwa [Int.toNat_of_nonneg this.1]
    · intro ht
      exact ⟨t, ht, by simp⟩
  have key := joined_len_iff J (zs.map Int.toNat) ha hlt
  rw [List.length_map] at key
  unfold closedB
  rw [vsB_true h, Bool.true_and, beq_iff_eq, key]
  constructor
  · intro hc i j k hi hj hk
    exact (hmem _).1 (hc _ ⟨i, j, k, by simpa using hi, by simpa using hj, by simpa using hk, by rw [hz i hi, hz j hj, hz k hk]⟩)
  · rintro hc x ⟨i, j, k, hi, hj, hk, rfl⟩
    have hi' : i < zs.length := by simpa using hi
    have hj' : j < zs.length := by simpa using hj
    have hk' : k < zs.length := by simpa using hk
    rw [hz i hi', hz j hj', hz k hk']
    exact (hmem _).2 (hc i j k hi' hj' hk')
theorem zN_at {n : Int} {zs : List Int} (h : Valid n zs) {i : Nat} (hi : i < zs.length) : zs[i] = (zN zs i : Int) ∧ zN zs i < 16 := by
  have := valid_range h _ (mem_of_at hi)
  unfold zN
  rw [getD_lt hi]
  constructor
  · rw [Int.toNat_of_nonneg this.1]
  · omega

end Go.Proofs.Ytbnnblfgpdfmpaa

/- Vlt: A judgment of a space as a number. -/
namespace Go.Proofs.Ytbnnblfgpdfmpaa
open Go.RowKit Go.Joins

theorem valid_lt {N : Nat} {zs : List Int} (h : Valid (N : Int) zs) {z : Int} (hz : z ∈ zs) : 0 ≤ z ∧ z.toNat < 2 ^ N := by
  obtain ⟨i, hi, rfl⟩ := List.getElem_of_mem hz
  have h1 := (h.2.2 i hi).1
  rw [getD_lt hi] at h1
  have e : pw (N : Int) = ((2 ^ N : Nat) : Int) := by unfold pw; rw [Int.toNat_natCast]
  omega
end Go.Proofs.Ytbnnblfgpdfmpaa

/- CloM: The least closed spaces: plain mathematics. -/
namespace Go.Proofs.Ytbnnblfgpdfmpaa
open Go.RowKit Go.Joins

theorem cloK_sub (f : Nat → Nat → Nat → Nat) : ∀ (k : Nat) (l : List Nat), (∀ x ∈ l, x < 16) → ∀ x ∈ l, x ∈ cloK f k l
  | 0, l, hl, x, hx => sub_joined f l hl x hx
  | k + 1, l, hl, x, hx => by
    rw [cloK]
    split
    · exact sub_joined f l hl x hx
    · exact cloK_sub f k (joined f l) (joined_lt f l) x (sub_joined f l hl x hx)
theorem joined_in {f : Nat → Nat → Nat → Nat} (J : Join f) {T : Nat → Prop} (hT : ∀ a b c, T a → T b → T c → T (f a b c)) {l : List Nat} (hl : ∀ x ∈ l, x < 16) (h : ∀ x ∈ l, T x) : ∀ x ∈ joined f l, T x := fun x hx => by
  obtain ⟨i, j, k, hi, hj, hk, rfl⟩ := (mem_joined J l hl x).1 hx
  exact hT _ _ _ (h _ (mem_getD hi)) (h _ (mem_getD hj)) (h _ (mem_getD hk))
theorem cloK_min {f : Nat → Nat → Nat → Nat} (J : Join f) {T : Nat → Prop} (hT : ∀ a b c, T a → T b → T c → T (f a b c)) : ∀ (k : Nat) (l : List Nat), (∀ x ∈ l, x < 16) → (∀ x ∈ l, T x) → ∀ x ∈ cloK f k l, T x
  | 0, l, hl, h, x, hx => joined_in J hT hl h x hx
  | k + 1, l, hl, h, x, hx => by
    rw [cloK] at hx
    split at hx
    · exact joined_in J hT hl h x hx
    · exact cloK_min J hT k (joined f l) (joined_lt f l) (joined_in J hT hl h) x hx
theorem joined_same {f : Nat → Nat → Nat → Nat} (J : Join f) {l : List Nat} (ha : Asc l) (hl : ∀ x ∈ l, x < 16) (h : (joined f l).length = l.length) : joined f l = l :=
  asc_ext _ _ (joined_asc f l) ha (fun x => ⟨fun hx => (joined_len_iff J l ha hl).1 h x ((mem_joined J l hl x).1 hx), sub_joined f l hl x⟩)
theorem cloK_closed {f : Nat → Nat → Nat → Nat} (J : Join f) : ∀ (k : Nat) (l : List Nat), Asc l → (∀ x ∈ l, x < 16) → 16 - l.length ≤ k → (joined f (cloK f k l)).length = (cloK f k l).length
  | 0, l, ha, hl, hk => by
    have h1 := joined_ge f l ha hl
    have h2 := joined_le f l
    have h3 := joined_ge f (joined f l) (joined_asc f l) (joined_lt f l)
    have h4 := joined_le f (joined f l)
    show (joined f (joined f l)).length = (joined f l).length
    omega
  | k + 1, l, ha, hl, hk => by
    rw [cloK]
    split
    · rename_i h
      rw [joined_same J ha hl h, h]
    · rename_i h
      have h1 := joined_ge f l ha hl
      exact cloK_closed J k (joined f l) (joined_asc f l) (joined_lt f l) (by omega)
theorem cloK_asc (f : Nat → Nat → Nat → Nat) : ∀ (k : Nat) (l : List Nat), Asc (cloK f k l)
  | 0, l => joined_asc f l
  | k + 1, l => by
    rw [cloK]
    split
    · exact joined_asc f l
    · exact cloK_asc f k _
theorem valid_ofAsc {N : Nat} (hN : 1 ≤ N ∧ N ≤ 4) {l : List Nat} (ha : Asc l) (hl : ∀ x ∈ l, x < 2 ^ N) (hp : 0 < l.length) : Valid (N : Int) (l.map fun (t : Nat) => (t : Int)) := by
  have e : pw (N : Int) = ((2 ^ N : Nat) : Int) := by unfold pw; rw [Int.toNat_natCast]
  refine ⟨by omega, by rw [List.length_map]; exact hp, fun i hi => ?_⟩
  rw [List.length_map] at hi
  refine ⟨?_, fun h0 => ?_⟩
  · rw [getD_lt (by rw [List.length_map]; exact hi), List.getElem_map]
    have := hl _ (List.getElem_mem hi)
    omega
  · rw [getD_lt (k := i) (by rw [List.length_map]; exact hi), getD_lt (k := i - 1) (by rw [List.length_map]; omega), List.getElem_map, List.getElem_map]
    have := List.pairwise_iff_getElem.1 ha (i - 1) i (show i - 1 < l.length from by omega) hi (by omega)
    omega
section
variable {f : Nat → Nat → Nat → Nat} {N : Nat} {zs : List Int}
theorem clo_mem (hV : Valid (N : Int) zs) {x : Nat} (h : (x : Int) ∈ zs) : (x : Int) ∈ cloT f zs := by
  have hm : x ∈ zs.map Int.toNat := List.mem_map.2 ⟨_, h, by simp⟩
  unfold cloT
  exact List.mem_map.2 ⟨x, cloK_sub f _ _ (valid_nat hV).2 x hm, rfl⟩
theorem clo_valid (J : Join f) (hf : ∀ x y z, x < 2 ^ N → y < 2 ^ N → z < 2 ^ N → f x y z < 2 ^ N) (hV : Valid (N : Int) zs) : Valid (N : Int) (cloT f zs) := by
  have hN := hV.1
  refine valid_ofAsc (by omega) (cloK_asc f _ _) (cloK_min J hf _ _ (valid_nat hV).2 (fun x hx => ?_)) ?_
  · obtain ⟨z, hz, rfl⟩ := List.mem_map.1 hx
    exact (valid_lt hV hz).2
  · have hpos := hV.2.1
    have hm : zs[0].toNat ∈ zs.map Int.toNat := List.mem_map.2 ⟨zs[0], List.getElem_mem hpos, rfl⟩
    exact List.length_pos_of_mem (cloK_sub f _ _ (valid_nat hV).2 _ hm)
theorem clo_closed (J : Join f) (hf : ∀ x y z, x < 2 ^ N → y < 2 ^ N → z < 2 ^ N → f x y z < 2 ^ N) (hV : Valid (N : Int) zs) : closedB f (N : Int) (cloT f zs) = true := by
  have h1 := clo_valid J hf hV
  unfold closedB
  rw [vsB_true h1, Bool.true_and, beq_iff_eq]
  unfold cloT
  rw [cast_toNat, List.length_map]
  exact cloK_closed J _ _ (valid_nat hV).1 (valid_nat hV).2 (by rw [List.length_map]; exact Nat.le_refl _)
/-- the closure is the space itself exactly if that is closed -/
theorem clo_self (J : Join f) (hf : ∀ x y z, x < 2 ^ N → y < 2 ^ N → z < 2 ^ N → f x y z < 2 ^ N) (hV : Valid (N : Int) zs) : decide (cloT f zs = zs) = closedB f (N : Int) zs := by
  rw [Bool.eq_iff_iff, decide_eq_true_iff]
  constructor
  · intro h
    have := clo_closed J hf hV
    rwa [h] at this
  · intro h
    unfold closedB at h
    rw [vsB_true hV, Bool.true_and, beq_iff_eq] at h
    have hl : (zs.map Int.toNat).length = zs.length := List.length_map _
    have e := joined_same J (valid_nat hV).1 (valid_nat hV).2 (by omega)
    unfold cloT
    rw [clo_stop (by omega), e, List.map_map]
    refine (List.map_congr_left (fun z hz => ?_)).trans (List.map_id zs)
    have h1 := valid_lt hV hz
    show ((z.toNat : Nat) : Int) = z
    omega
end
end Go.Proofs.Ytbnnblfgpdfmpaa

/- OpenB: Whether a judgment has all answers of a part: plain mathematics. -/
namespace Go.Proofs.Ytbnnblfgpdfmpaa
open Go.RowKit Go.Joins

def openB (zs : List Int) (c b : Int) : Bool := zs.any fun x => hpB x c b
theorem openB_true {zs : List Int} {c b : Int} {k : Nat} (hk : k < zs.length) (h : hpB zs[k] c b = true) : openB zs c b = true := by
  unfold openB; rw [List.any_eq_true]; exact ⟨zs[k], mem_of_at hk, h⟩
theorem openB_false {zs : List Int} {c b : Int} (h : ∀ j, j < zs.length → hpB (zs.getD j 0) c b = false) : openB zs c b = false := by
  unfold openB; rw [List.any_eq_false]
  intro x hx
  obtain ⟨j, hj, rfl⟩ := List.getElem_of_mem hx
  have := h j hj
  rw [getD_lt hj] at this
  simp [this]
end Go.Proofs.Ytbnnblfgpdfmpaa

/- CrM: Critical parts: plain mathematics; nothing of the program. -/
namespace Go.Proofs.Ytbnnblfgpdfmpaa
open Go.RowKit Go.Joins

/-- all parts of judgments about n issues, by the number of issues, then by the issues, then by the answers -/
def ordC (s c : Nat) : List (Nat × Nat) := if wt c = s then ((List.range (c + 1)).filter fun b => b &&& c == b).map fun b => (c, b) else []
def ordS (n s : Nat) : List (Nat × Nat) := (List.range (2 ^ n)).flatMap (ordC s)
def ordL (n : Nat) : List (Nat × Nat) := (List.range (n + 1)).flatMap (ordS n)
/-- whether the part m is a part of q -/
def subP (m q : Nat × Nat) : Bool := (m.1 &&& q.1 == m.1) && (q.2 &&& m.1 == m.2)
def opn (zs : List Int) (p : Nat × Nat) : Bool := openB zs (p.1 : Int) (p.2 : Int)
/-- a part without the answer to an issue -/
def lessP (j : Nat) (p : Nat × Nat) : Nat × Nat := (p.1 - 2 ^ j, p.2 - (p.2 &&& 2 ^ j))
/-- whether a part is critical -/
def crB (n : Nat) (zs : List Int) (p : Nat × Nat) : Bool := !opn zs p && (List.range n).all fun j => bitN p.1 j == 0 || opn zs (lessP j p)
/-- the critical parts -/
def critL (n : Nat) (zs : List Int) : List (Nat × Nat) := (ordL n).filter (crB n zs)

theorem subP_iff {m q : Nat × Nat} : subP m q = true ↔ m.1 &&& q.1 = m.1 ∧ q.2 &&& m.1 = m.2 := by
  unfold subP; rw [Bool.and_eq_true, beq_iff_eq, beq_iff_eq]
theorem hp_nat (x : Int) (c b : Nat) : hpB x (c : Int) (b : Int) = (x.toNat &&& c == b) := by
  unfold hpB; rw [Int.toNat_natCast, Int.toNat_natCast]
theorem opn_iff {zs : List Int} {p : Nat × Nat} : opn zs p = true ↔ ∃ x ∈ zs, x.toNat &&& p.1 = p.2 := by
  unfold opn openB
  rw [List.any_eq_true]
  simp only [hp_nat, beq_iff_eq]
theorem opn_sub {zs : List Int} {m q : Nat × Nat} (h : subP m q = true) (ho : opn zs q = true) : opn zs m = true := by
  rw [subP_iff] at h
  rw [opn_iff] at ho ⊢
  obtain ⟨x, hx, e⟩ := ho
  refine ⟨x, hx, ?_⟩
  rw [← h.2, ← e, Nat.and_assoc, Nat.and_comm q.1 m.1, h.1]
theorem subP_trans {a b c : Nat × Nat} (h1 : subP a b = true) (h2 : subP b c = true) : subP a c = true := by
  rw [subP_iff] at *
  refine ⟨?_, ?_⟩
  · rw [← h1.1, Nat.and_assoc, h2.1]
  · rw [← h1.2, ← h2.2, Nat.and_assoc, Nat.and_comm b.1 a.1, h1.1]
def range5 (p : Nat → Bool) : Bool := p 0 && p 1 && p 2 && p 3 && p 4
theorem range5_of {p : Nat → Bool} (h : range5 p = true) {n : Nat} (hn : n ≤ 4) : p n = true := by
  unfold range5 at h
  simp only [Bool.and_eq_true] at h
  obtain ⟨⟨⟨⟨h0, h1⟩, h2⟩, h3⟩, h4⟩ := h
  rcases (show n = 0 ∨ n = 1 ∨ n = 2 ∨ n = 3 ∨ n = 4 from by omega) with rfl | rfl | rfl | rfl | rfl <;> assumption
set_option maxRecDepth 100000 in
theorem ord_chk : range5 (fun n => (ordL n).all fun p => decide (p.1 < 2 ^ n) && (p.2 &&& p.1 == p.2) && subP p p && (List.range n).all fun j => bitN p.1 j == 0 || ((ordL n).contains (lessP j p) && decide (wt (lessP j p).1 < wt p.1) && subP (lessP j p) p && (lessP j p != p))) = true := by decide +kernel
set_option maxRecDepth 100000 in
theorem sub_chk : range5 (fun n => (ordL n).all fun p => (ordL n).all fun m => !subP m p || m == p || (decide (wt m.1 < wt p.1) && (List.range n).any fun j => bitN p.1 j == 1 && subP m (lessP j p))) = true := by decide +kernel
set_option maxRecDepth 100000 in
theorem ord_sorted : range5 (fun n => decide ((ordL n).Pairwise fun p q => wt p.1 ≤ wt q.1)) = true := by decide +kernel
set_option maxRecDepth 100000 in
theorem ord_nodup : range5 (fun n => decide ((ordL n).Nodup)) = true := by decide +kernel
theorem ord_facts {n : Nat} (hn : n ≤ 4) {p : Nat × Nat} (hp : p ∈ ordL n) : p.1 < 2 ^ n ∧ p.2 &&& p.1 = p.2 ∧ subP p p = true ∧ ∀ j, j < n → bitN p.1 j = 1 → lessP j p ∈ ordL n ∧ wt (lessP j p).1 < wt p.1 ∧ subP (lessP j p) p = true ∧ lessP j p ≠ p := by
  have h := range5_of ord_chk hn
  rw [List.all_eq_true] at h
  have h1 := h p hp
  simp only [Bool.and_eq_true, decide_eq_true_eq, beq_iff_eq] at h1
  obtain ⟨⟨⟨a, b⟩, c⟩, d⟩ := h1
  refine ⟨a, b, c, fun j hj hb => ?_⟩
  rw [List.all_eq_true] at d
  have h2 := d j (List.mem_range.2 hj)
  rw [hb] at h2
  simp only [Bool.or_eq_true, Bool.and_eq_true, decide_eq_true_eq, List.contains_iff_mem, bne_iff_ne] at h2
  rcases h2 with h2 | ⟨⟨⟨h3, h4⟩, h5⟩, h6⟩
  · simp at h2
  · exact ⟨h3, h4, h5, h6⟩
theorem sub_facts {n : Nat} (hn : n ≤ 4) {p m : Nat × Nat} (hp : p ∈ ordL n) (hm : m ∈ ordL n) (hs : subP m p = true) (hne : m ≠ p) : wt m.1 < wt p.1 ∧ ∃ j, j < n ∧ bitN p.1 j = 1 ∧ subP m (lessP j p) = true := by
  have h := range5_of sub_chk hn
  rw [List.all_eq_true] at h
  have h1 := h p hp
  rw [List.all_eq_true] at h1
  have h2 := h1 m hm
  rw [hs] at h2
  simp only [Bool.not_true, Bool.false_or, Bool.or_eq_true, Bool.and_eq_true, beq_iff_eq, decide_eq_true_eq, List.any_eq_true, List.mem_range] at h2
  rcases h2 with h2 | ⟨h3, j, h4, h5, h6⟩
  · exact absurd h2 hne
  · exact ⟨h3, j, h4, h5, h6⟩
theorem cr_iff {n : Nat} {zs : List Int} {p : Nat × Nat} : crB n zs p = true ↔ opn zs p = false ∧ ∀ j, j < n → bitN p.1 j = 1 → opn zs (lessP j p) = true := by
  unfold crB
  rw [Bool.and_eq_true, Bool.not_eq_true', List.all_eq_true]
  constructor
  · rintro ⟨h1, h2⟩
    refine ⟨h1, fun j hj hb => ?_⟩
    have h3 := h2 j (List.mem_range.2 hj)
    rw [hb] at h3
    simpa using h3
  · rintro ⟨h1, h2⟩
    refine ⟨h1, fun j hj => ?_⟩
    rw [List.mem_range] at hj
    have hle := bitN_le p.1 j
    rcases (show bitN p.1 j = 0 ∨ bitN p.1 j = 1 from by omega) with e | e
    · rw [e]; rfl
    · rw [h2 j hj e, Bool.or_true]
/-- what is closed has a critical part -/
theorem cr_ex {n : Nat} (hn : n ≤ 4) (zs : List Int) : ∀ (k : Nat) (p : Nat × Nat), p ∈ ordL n → wt p.1 ≤ k → opn zs p = false → ∃ m ∈ ordL n, crB n zs m = true ∧ subP m p = true
  | k, p, hp, hk, ho => by
    have hf := ord_facts hn hp
    by_cases hc : crB n zs p = true
    · exact ⟨p, hp, hc, hf.2.2.1⟩
    · have hx : ∃ j, j < n ∧ bitN p.1 j = 1 ∧ opn zs (lessP j p) = false := by
        refine Classical.byContradiction fun hno => hc ?_
        rw [cr_iff]
        refine ⟨ho, fun j hj hb => ?_⟩
        rcases Bool.eq_false_or_eq_true (opn zs (lessP j p)) with h | h
        · exact h
        · exact absurd ⟨j, hj, hb, h⟩ hno
      obtain ⟨j, hj, hb, hlo⟩ := hx
      obtain ⟨h1, h2, h3, _⟩ := hf.2.2.2 j hj hb
      match k, hk with
      | 0, hk => omega
      | k + 1, hk =>
        obtain ⟨m, hm, hcm, hsm⟩ := cr_ex hn zs k (lessP j p) h1 (by omega) hlo
        exact ⟨m, hm, hcm, subP_trans hsm h3⟩
/-- a critical part has no other one that is closed -/
theorem cr_least {n : Nat} (hn : n ≤ 4) {zs : List Int} {p m : Nat × Nat} (hp : p ∈ ordL n) (hm : m ∈ ordL n) (hc : crB n zs p = true) (ho : opn zs m = false) (hs : subP m p = true) : m = p := by
  refine Classical.byContradiction fun hne => ?_
  obtain ⟨_, j, hj, hb, h1⟩ := sub_facts hn hp hm hs hne
  have h2 := (cr_iff.1 hc).2 j hj hb
  rw [opn_sub h1 h2] at ho
  cases ho
/-- whether a part is still there when the first k have had their turns -/
def stillB (n : Nat) (zs : List Int) (k : Nat) (q : Nat × Nat) : Bool := (ordL n).contains q && !opn zs q && ((ordL n).take k).all fun m => !(crB n zs m && subP m q) || m == q
theorem still_turn {n : Nat} (hn : n ≤ 4) {zs : List Int} {k : Nat} (hk : k < (ordL n).length) : stillB n zs k (ordL n)[k] = crB n zs (ordL n)[k] := by
  have hp : (ordL n)[k] ∈ ordL n := List.getElem_mem hk
  obtain ⟨p, hpe⟩ : ∃ p, p = (ordL n)[k] := ⟨_, rfl⟩
  rw [← hpe] at hp ⊢
  rw [Bool.eq_iff_iff]
  unfold stillB
  rw [Bool.and_eq_true, Bool.and_eq_true, Bool.not_eq_true', List.contains_iff_mem, List.all_eq_true]
  constructor
  · rintro ⟨⟨_, ho⟩, hall⟩
    obtain ⟨m, hm, hcm, hsm⟩ := cr_ex hn zs (wt p.1) p hp (Nat.le_refl _) ho
    by_cases e : m = p
    · rw [← e]; exact hcm
    · exfalso
      have hwt := (sub_facts hn hp hm hsm e).1
      obtain ⟨i, hi, hie⟩ := List.getElem_of_mem hm
      have hik : i < k := by
        rcases Nat.lt_trichotomy i k with h | h | h
        · exact h
        · exfalso; subst h; rw [hpe] at e; exact e hie.symm
        · exfalso
          have hs := range5_of ord_sorted hn
          rw [decide_eq_true_eq, List.pairwise_iff_getElem] at hs
          have := hs k i hk hi h
          rw [hie, ← hpe] at this
          omega
      have hmt : m ∈ (ordL n).take k := by
        rw [← hie]
        exact List.mem_take_iff_getElem.2 ⟨i, by omega, rfl⟩
      have := hall m hmt
      rw [hcm, hsm] at this
      simp only [Bool.and_self, Bool.not_true, Bool.false_or, beq_iff_eq] at this
      exact e this
  · intro hc
    refine ⟨⟨hp, (cr_iff.1 hc).1⟩, fun m hm => ?_⟩
    have hm' : m ∈ ordL n := List.mem_of_mem_take hm
    rcases Bool.eq_false_or_eq_true (crB n zs m && subP m p) with h | h
    · rw [h]
      rw [Bool.and_eq_true] at h
      rw [cr_least hn hp hm' hc (cr_iff.1 h.1).1 h.2]
      simp
    · rw [h]; rfl
theorem take_all {α : Type} (l : List α) (p : α → Bool) {k : Nat} (hk : k < l.length) : (l.take (k + 1)).all p = ((l.take k).all p && p l[k]) := by
  rw [List.take_add_one, List.getElem?_eq_getElem hk, List.all_append]
  simp
theorem still_zero {n : Nat} {zs : List Int} {q : Nat × Nat} : stillB n zs 0 q = ((ordL n).contains q && !opn zs q) := by
  unfold stillB; simp
theorem still_no {n : Nat} {zs : List Int} {k : Nat} {q : Nat × Nat} (hk : k < (ordL n).length) (h : crB n zs (ordL n)[k] = false) : stillB n zs (k + 1) q = stillB n zs k q := by
  unfold stillB
  rw [take_all _ _ hk, h]; simp
theorem still_yes {n : Nat} {zs : List Int} {k : Nat} {q : Nat × Nat} (hk : k < (ordL n).length) (h : crB n zs (ordL n)[k] = true) : stillB n zs (k + 1) q = (stillB n zs k q && !(subP (ordL n)[k] q && q != (ordL n)[k])) := by
  unfold stillB
  rw [take_all _ _ hk, h]
  obtain ⟨p, hpe⟩ : ∃ p, p = (ordL n)[k] := ⟨_, rfl⟩
  rw [← hpe, ← Bool.and_assoc]
  congr 1
  rcases Bool.eq_false_or_eq_true (subP p q) with h1 | h1
  · rw [h1]
    by_cases e : p = q
    · subst e; simp
    · have e2 : ¬ q = p := fun h => e h.symm
      have e3 : (p == q) = false := by simpa using e
      have e4 : (q != p) = true := by simpa using e2
      rw [e3, e4]; rfl
  · rw [h1]; simp
theorem filter_takeP (n : Nat) (zs : List Int) {k : Nat} (hk : k < (ordL n).length) : ((ordL n).take (k + 1)).filter (crB n zs) = ((ordL n).take k).filter (crB n zs) ++ (if crB n zs (ordL n)[k] = true then [(ordL n)[k]] else []) := by
  rw [List.take_add_one, List.getElem?_eq_getElem hk, List.filter_append]
  by_cases h : crB n zs (ordL n)[k] = true <;> simp [h]
end Go.Proofs.Ytbnnblfgpdfmpaa

/- Open: Whether a judgment has all answers of a part: the model's loop, the program's closures; IsOpen. -/
namespace Go.Proofs.Ytbnnblfgpdfmpaa
open Go.RowKit Go.Joins

set_option maxHeartbeats 1000000 in
theorem open_any (n c b : Int) (a : Option Addr) (cap : Nat) (zs : List Int) (w : World) (hi : Ints w a zs) (hn : zs.length ≤ 1048576) (hr : ∀ x ∈ zs, 0 ≤ x ∧ x ≤ 15) (hc : 0 ≤ c ∧ c ≤ 15) (hb : 0 ≤ b) :
    Calls Try.prog 101 #[.agg #[.int .i64 n, .slice a zs.length cap], .agg #[.int .i64 c, .int .i64 b]] w fun e w' => e = .returned (.bool (openB zs c b)) ∧ Below w.heap.size w w' := by
  have HC := hide hc
  have HB := hide hb
  have HR := hide hr
  clear hc hb hr
  have bx := (Box.new w n a zs.length cap 26).below (bel1 (w.alloc (.cells #[.int .i64 n, .slice a zs.length cap] 26)) (.cells #[.int .i64 c, .int .i64 b] 60))
  have px := PBox.new (w.alloc (.cells #[.int .i64 n, .slice a zs.length cap] 26)) c b 60
  simp only [World.size_alloc] at px
  have ia := hi.below (bel2 w (.cells #[.int .i64 n, .slice a zs.length cap] 26) (.cells #[.int .i64 c, .int .i64 b] 60))
  clear hi
  go_enter Try.func101, Try.ntmps101
  go_wp2_with fail
  go_loopw [5] (fun i wr => ∃ k : Nat, k ≤ zs.length ∧ i = .int .i64 k ∧ (∀ j, j < k → hpB (zs.getD j 0) c b = false) ∧ Below (w.heap.size + 1 + 1) ((w.alloc (.cells #[.int .i64 n, .slice a zs.length cap] 26)).alloc (.cells #[.int .i64 c, .int .i64 b] 60)) wr) (fun i _ => zs.length - (intOf i).toNat)
  case atStart => exact ⟨0, Nat.zero_le _, rfl, fun j hj => by omega, Below.refl _ _⟩
  case round =>
    obtain ⟨k, hk, rfl, hall, hb⟩ := hrel
    have HA := hide hall
    clear hall
    obtain ⟨_, c0, c1⟩ := bx.below (by simpa only [World.size_alloc] using hb)
    obtain ⟨_, p0, p1⟩ := px.below (by simpa only [World.size_alloc] using hb)
    by_cases hlt : k < zs.length
    · obtain ⟨bb, off, rfl, hbl, hc⟩ := (ia.below (by simpa only [World.size_alloc] using hb)) (by omega)
      have hck := hc k hlt
      rw [getD_lt hlt] at hck
      have hp := hp_and (HR.out _ (mem_of_at hlt)) HC.out HB.out
      clear hc ia bx px
      by_cases he : hpB zs[k] c b = true
      · have hE : (bits .and .i64 zs[k] c == b) = true := by rw [hp]; exact he
        have HF := hide (openB_true hlt he)
        clear he hp
        go_wp2
        go_quiet (fail)
        go_wp2
        go_ret
        exact ⟨ret_bool HF.out.symm, ((bel2 w _ _).trans (hb.mono (by omega))).trans ((belN _ _).mono (by have := hb.size; simp at this; omega))⟩
      · have he : hpB zs[k] c b = false := by simpa using he
        have hE : (bits .and .i64 zs[k] c == b) = false := by rw [hp]; exact he
        have HE := hide he
        clear he hp
        go_wp2
        go_quiet (fail)
        go_wp2
        go_roundw
        case rel => exact ⟨k + 1, by omega, by go_num, fun j hj => by
          rcases Nat.lt_or_ge j k with h | h
          · exact HA.out j h
          · obtain rfl : j = k := by omega
            rw [getD_lt hlt]
            exact HE.out, hb.trans ((belN _ _).mono (by have := hb.size; simpa using this))⟩
        case measure => simp only [intOf]; omega
    · obtain rfl : k = zs.length := by omega
      go_wp2
      go_ret
      exact ⟨ret_bool (openB_false HA.out).symm, (bel2 w _ _).trans (hb.mono (by omega))⟩

theorem hasPart_any (x c b : Int) (w : World) (hx : 0 ≤ x ∧ x ≤ 15) (hc : 0 ≤ c ∧ c ≤ 15) (hb : 0 ≤ b) :
    Calls Try.prog 72 #[.int .i64 x, .agg #[.int .i64 c, .int .i64 b]] w fun e w' => e = .returned (.bool (hpB x c b)) ∧ Below w.heap.size w w' := by
  have hp := hide (hp_and hx hc hb)
  clear hx hc hb
  go_enter Try.func72, Try.ntmps72
  go_wp2_with fail
  go_ret
  exact ⟨ret_bool hp.out, bel1 w _⟩

theorem openAsker11_any (x c b : Int) (g : Nat) (w : World) (bx : PBox w g c b) (hx : 0 ≤ x ∧ x ≤ 15) (hc : 0 ≤ c ∧ c ≤ 15) (hb : 0 ≤ b) :
    Calls Try.prog 71 #[.int .i64 x, .pointer (some ⟨g, 0, none⟩)] w fun e w' => e = .returned (.bool (hpB x c b)) ∧ Below w.heap.size w w' := by
  obtain ⟨_, c0, c1⟩ := bx
  go_enter Try.func71, Try.ntmps71
  go_wp2_with fail
  refine (hasPart_any _ _ _ _ hx hc hb).mono ?_
  rintro e w1 ⟨rfl, h1⟩
  go_wp2
  go_ret
  exact ⟨rfl, h1⟩

/-- What slices.IndexFunc leaves. -/
def IdxFPost (zs : List Int) (c b : Int) (w : World) (e : Ending) (w' : World) : Prop :=
  ∃ r : Int, ((openB zs c b = true ∧ 0 ≤ r) ∨ (openB zs c b = false ∧ r = -1)) ∧ r ≤ 1048576 ∧ e = .returned (.int .i64 r) ∧ Below w.heap.size w w'

set_option maxHeartbeats 1000000 in
theorem indexFunc_any (c b : Int) (a : Option Addr) (cap g : Nat) (zs : List Int) (w : World) (hi : Ints w a zs) (hn : zs.length ≤ 1048576) (px : PBox w g c b) (hr : ∀ x ∈ zs, 0 ≤ x ∧ x ≤ 15) (hc : 0 ≤ c ∧ c ≤ 15) (hb : 0 ≤ b) :
    Calls Try.prog 87 #[.slice a zs.length cap, .func (.func 71) #[] #[.pointer (some ⟨g, 0, none⟩)]] w (IdxFPost zs c b w) := by
  have HC := hide hc
  have HB := hide hb
  have HR := hide hr
  clear hc hb hr
  go_enter Try.func87, Try.ntmps87
  go_wp2_with fail
  go_loopw [8] (fun i wr => ∃ k : Nat, k ≤ zs.length ∧ i = .int .i64 k ∧ (∀ j, j < k → hpB (zs.getD j 0) c b = false) ∧ Below w.heap.size w wr) (fun i _ => zs.length - (intOf i).toNat)
  case atStart => exact ⟨0, Nat.zero_le _, rfl, fun j hj => by omega, Below.refl _ _⟩
  case round =>
    obtain ⟨k, hk, rfl, hall, hb⟩ := hrel
    have HA := hide hall
    clear hall
    by_cases hlt : k < zs.length
    · obtain ⟨bb, off, rfl, hbl, hc⟩ := (hi.below hb) (by omega)
      have hck := hc k hlt
      rw [getD_lt hlt] at hck
      clear hc hi
      by_cases he : hpB zs[k] c b = true
      · have HF := hide (openB_true hlt he)
        have HE := hide he
        clear he
        go_wp2_with fail
        refine (openAsker11_any _ c b _ _ (px.below hb) (HR.out _ (mem_of_at hlt)) HC.out HB.out).mono ?_
        rintro e w1 ⟨rfl, h1⟩
        have he := HE.out
        go_wp2
        go_ret
        exact ⟨k, .inl ⟨HF.out, by omega⟩, by omega, rfl, bnext hb h1⟩
      · have he : hpB zs[k] c b = false := by simpa using he
        have HE := hide he
        clear he
        go_wp2_with fail
        refine (openAsker11_any _ c b _ _ (px.below hb) (HR.out _ (mem_of_at hlt)) HC.out HB.out).mono ?_
        rintro e w1 ⟨rfl, h1⟩
        have he := HE.out
        go_wp2
        go_roundw
        case rel => exact ⟨k + 1, by omega, by go_num, fun j hj => by
          rcases Nat.lt_or_ge j k with h | h
          · exact HA.out j h
          · obtain rfl : j = k := by omega
            rw [getD_lt hlt]
            exact HE.out, bnext hb h1⟩
        case measure => simp only [intOf]; omega
    · obtain rfl : k = zs.length := by omega
      go_wp2
      go_ret
      exact ⟨-1, .inr ⟨openB_false HA.out, rfl⟩, by omega, rfl, hb⟩

theorem containsFunc_any (c b : Int) (a : Option Addr) (cap g : Nat) (zs : List Int) (w : World) (hi : Ints w a zs) (hn : zs.length ≤ 1048576) (px : PBox w g c b) (hr : ∀ x ∈ zs, 0 ≤ x ∧ x ≤ 15) (hc : 0 ≤ c ∧ c ≤ 15) (hb : 0 ≤ b) :
    Calls Try.prog 70 #[.slice a zs.length cap, .func (.func 71) #[] #[.pointer (some ⟨g, 0, none⟩)]] w fun e w' => e = .returned (.bool (openB zs c b)) ∧ Below w.heap.size w w' := by
  by_cases hm : openB zs c b = true
  · have HM := hide hm
    clear hm
    go_enter Try.func70, Try.ntmps70
    go_wp2_with fail
    refine (indexFunc_any _ _ _ _ _ _ _ hi hn px hr hc hb).mono ?_
    rintro e w' ⟨r, hr, hr2, rfl, hb⟩
    have h0 : 0 ≤ r := by
      rcases hr with ⟨_, h⟩ | ⟨h, _⟩
      · exact h
      · rw [HM.out] at h; cases h
    clear hr
    go_wp2
    go_ret
    exact ⟨ret_bool HM.out.symm, hb⟩
  · have hm : openB zs c b = false := by simpa using hm
    have HM := hide hm
    clear hm
    go_enter Try.func70, Try.ntmps70
    go_wp2_with fail
    refine (indexFunc_any _ _ _ _ _ _ _ hi hn px hr hc hb).mono ?_
    rintro e w' ⟨r, hr, hr2, rfl, hb⟩
    have h0 : r < 0 := by
      rcases hr with ⟨h, _⟩ | ⟨_, h⟩
      · rw [HM.out] at h; cases h
      · omega
    clear hr
    go_wp2
    go_ret
    exact ⟨ret_bool (by rw [HM.out]; simp; omega), hb⟩

theorem openAsker1_any (n c b : Int) (a : Option Addr) (cap g : Nat) (zs : List Int) (w : World) (hi : Ints w a zs) (hn : zs.length ≤ 1048576) (bx : Box w g n a zs.length cap) (hr : ∀ x ∈ zs, 0 ≤ x ∧ x ≤ 15) (hc : 0 ≤ c ∧ c ≤ 15) (hb : 0 ≤ b) :
    Calls Try.prog 69 #[.agg #[.int .i64 c, .int .i64 b], .pointer (some ⟨g, 0, none⟩)] w fun e w' => e = .returned (.bool (openB zs c b)) ∧ Below w.heap.size w w' := by
  have ia := hi.below (bel1 w (.cells #[.int .i64 c, .int .i64 b] 60))
  have px := PBox.new w c b 60
  obtain ⟨_, c0, c1⟩ := bx
  clear hi
  have HR := hide hr
  have HC := hide hc
  have HB := hide hb
  clear hr hc hb
  go_enter Try.func69, Try.ntmps69
  go_wp2_with fail
  refine (containsFunc_any _ _ _ _ _ _ _ ia hn px HR.out HC.out HB.out).mono ?_
  rintro e w1 ⟨rfl, h1⟩
  go_wp2
  go_ret
  exact ⟨rfl, bnext (bel1 w _) h1⟩

theorem openAsker_any (n : Int) (a : Option Addr) (len cap : Nat) (w : World) : Calls Try.prog 54 #[.agg #[.int .i64 n, .slice a len cap]] w fun e w' =>
    e = .returned (.func (.func 69) #[] #[.pointer (some ⟨w.heap.size, 0, none⟩)]) ∧ w' = w.alloc (.cells #[.int .i64 n, .slice a len cap] 26) := by
  go_enter Try.func54, Try.ntmps54
  go_wp2_with fail
  go_ret
  exact ⟨rfl, rfl⟩

/-- what IsOpen answers -/
def opB (n : Int) (zs : List Int) (c b : Int) : Bool := vpB n zs c b && openB zs c b
theorem opB_false {n : Int} {zs : List Int} {c b : Int} (h : vpB n zs c b = false) : opB n zs c b = false := by unfold opB; rw [h]; rfl
theorem opB_true {n : Int} {zs : List Int} {c b : Int} (h : vpB n zs c b = true) : opB n zs c b = openB zs c b := by unfold opB; rw [h]; rfl
theorem vp_of {n : Int} {zs : List Int} {c b : Int} (h : vpB n zs c b = true) : Valid n zs ∧ IsPt n c b := by
  simpa [vpB, vsB, ptB] using h

end Go.Proofs.Ytbnnblfgpdfmpaa

/- CrS: The model's critical parts: its walk. -/
namespace Go.Proofs.Ytbnnblfgpdfmpaa
open Go.RowKit Go.Joins

/-- the critical parts of fewer than s issues -/
def lv0 (n : Nat) (zs : List Int) (s : Nat) : List (Nat × Nat) := ((List.range s).flatMap (ordS n)).filter (crB n zs)
def lv1 (n : Nat) (zs : List Int) (s c : Nat) : List (Nat × Nat) := lv0 n zs s ++ ((List.range c).flatMap (ordC s)).filter (crB n zs)
def lv2 (n : Nat) (zs : List Int) (s c b : Nat) : List (Nat × Nat) := lv1 n zs s c ++ (((List.range b).filter fun b => b &&& c == b).map fun b => (c, b)).filter (crB n zs)
theorem lv1_zero (n : Nat) (zs : List Int) (s : Nat) : lv1 n zs s 0 = lv0 n zs s := by simp [lv1]
theorem lv2_zero (n : Nat) (zs : List Int) (s c : Nat) : lv2 n zs s c 0 = lv1 n zs s c := by simp [lv2]
theorem lv1_end (n : Nat) (zs : List Int) (s : Nat) : lv1 n zs s (2 ^ n) = lv0 n zs (s + 1) := by
  unfold lv1 lv0
  rw [List.range_succ, List.flatMap_append, List.filter_append]
  simp [ordS]
theorem lv0_end (n : Nat) (zs : List Int) : lv0 n zs (n + 1) = critL n zs := rfl
theorem lv2_end {n : Nat} {zs : List Int} {s c : Nat} (h : wt c = s) : lv2 n zs s c (c + 1) = lv1 n zs s (c + 1) := by
  unfold lv2 lv1
  rw [List.range_succ (n := c), List.flatMap_append, List.filter_append, List.append_assoc]
  simp only [List.flatMap_cons, List.flatMap_nil, List.append_nil, ordC, if_pos h, List.range_succ (n := c), List.filter_append, List.map_append]
theorem lv1_skip {n : Nat} {zs : List Int} {s c : Nat} (h : wt c ≠ s) : lv1 n zs s (c + 1) = lv1 n zs s c := by
  unfold lv1
  rw [List.range_succ (n := c), List.flatMap_append, List.filter_append]
  simp [ordC, if_neg h]
theorem lv2_yes {n : Nat} {zs : List Int} {s c b : Nat} (h : (b &&& c == b) = true) (hc : crB n zs (c, b) = true) : lv2 n zs s c (b + 1) = lv2 n zs s c b ++ [(c, b)] := by
  unfold lv2
  rw [List.range_succ, List.filter_append, List.map_append, List.filter_append, List.append_assoc]
  congr 2
  simp only [List.filter_cons, h, if_true, List.filter_nil, List.map_cons, List.map_nil, hc]
theorem lv2_off {n : Nat} {zs : List Int} {s c b : Nat} (h : (b &&& c == b) = false) : lv2 n zs s c (b + 1) = lv2 n zs s c b := by
  unfold lv2
  rw [List.range_succ, List.filter_append, List.map_append, List.filter_append]
  simp [h]
theorem lv2_no {n : Nat} {zs : List Int} {s c b : Nat} (hc : crB n zs (c, b) = false) : lv2 n zs s c (b + 1) = lv2 n zs s c b := by
  unfold lv2
  rw [List.range_succ, List.filter_append, List.map_append, List.filter_append]
  by_cases h : (b &&& c == b) = true
  · simp only [List.filter_cons, h, if_true, List.filter_nil, List.map_cons, List.map_nil, hc]
    simp
  · simp [h]
def ofP (l : List (Nat × Nat)) : List (Int × Int) := l.map fun p => ((p.1 : Int), (p.2 : Int))
/-- the least so far -/
def lstB (zs : List Int) (p : Nat × Nat) (j : Nat) : Bool := (List.range j).all fun j => bitN p.1 j == 0 || opn zs (lessP j p)
theorem lst_next {zs : List Int} {p : Nat × Nat} {j : Nat} : lstB zs p (j + 1) = (lstB zs p j && (bitN p.1 j == 0 || opn zs (lessP j p))) := by
  unfold lstB
  rw [List.range_succ, List.all_append]
  simp
/-- the list under way -/
def CI (w : World) (N : Nat) (a : Option Addr) (zs : List Int) (cap : Nat) (v : Value) (l : List (Nat × Nat)) (K : Nat) (wq : World) : Prop :=
  OwnsP wq (w.heap.size + 1) v (ofP l) ∧ l.length ≤ K ∧ SV w (N : Int) a zs cap none [] wq
theorem CI.below {w : World} {N : Nat} {a : Option Addr} {zs : List Int} {cap : Nat} {v : Value} {l : List (Nat × Nat)} {K : Nat} {wq w' : World} (h : CI w N a zs cap v l K wq) (hb : Below wq.heap.size wq w') : CI w N a zs cap v l K w' :=
  ⟨h.1.below hb, h.2.1, h.2.2.below hb⟩
theorem CI.to {w : World} {N : Nat} {a : Option Addr} {zs : List Int} {cap : Nat} {v : Value} {l l' : List (Nat × Nat)} {K K' : Nat} {wq : World} (h : CI w N a zs cap v l K wq) (e : l' = l) (hk : K ≤ K') : CI w N a zs cap v l' K' wq := by
  subst e
  exact ⟨h.1, Nat.le_trans h.2.1 hk, h.2.2⟩
theorem CI.cells {w : World} {N : Nat} {a : Option Addr} {zs : List Int} {cap : Nat} {v : Value} {l : List (Nat × Nat)} {K : Nat} {wq : World} (h : CI w N a zs cap v l K wq) : wq.cell? ⟨w.heap.size, 0, none⟩ = some (.int .i64 (N : Int)) ∧ wq.cell? ⟨w.heap.size, 1, none⟩ = some (.slice a zs.length cap) := ⟨h.2.2.1.2.1, h.2.2.1.2.2⟩
theorem CI.push {w : World} {N : Nat} {a : Option Addr} {zs : List Int} {cap : Nat} {v v' : Value} {l : List (Nat × Nat)} {K c b : Nat} {wq w5 : World} (h : CI w N a zs cap v l K wq) (hi0 : Ints w a zs) (hg : wq.grownBy w5 v.ownBlock)
    (ho : w5.ownsRow (w.heap.size + 1) 60 2 v' ((ofP l).length + 1) (pflat (ofP l) ++ [.int .i64 (c : Int), .int .i64 (b : Int)])) : CI w N a zs cap v' (l ++ [(c, b)]) (K + 1) w5 := by
  have hp' : wq.ownsRow (w.heap.size + 1) 60 2 v (ofP l).length (pflat (ofP l)) := h.1
  have hge : ∀ k, v.ownBlock = some k → w.heap.size + 1 ≤ k := fun k hk => (World.ownsRow.lt hp' k hk).1
  have e : ofP (l ++ [(c, b)]) = ofP l ++ [((c : Int), (b : Int))] := by simp [ofP]
  refine ⟨by rw [e]; exact OwnsP.push ho, by rw [List.length_append]; have := h.2.1; simpa using this, ?_⟩
  obtain ⟨⟨hl, q0, q1⟩, hi, hj, hb⟩ := h.2.2
  have hB := bgrown hb hg hb.size (fun k hk => by have := hge k hk; omega)
  refine ⟨⟨Nat.lt_of_lt_of_le hl hg.size, hg.cell q0 (fun e => ?_), hg.cell q1 (fun e => ?_)⟩, hi0.below hB, fun hz => by simp at hz, hB⟩
  · have := hge _ e.symm
    simp at this
    omega
  · have := hge _ e.symm
    simp at this
    omega
theorem bit_was (x j r : Nat) (w : World) (hx : x < 16) (hj : j ≤ 4) (h : bitN x j = r) : Calls Try.prog 79 #[.int .i64 x, .int .i64 j] w fun e w' => e = .returned (.int .i64 (r : Nat)) ∧ w = w' := by
  subst h
  exact bit_any x j w hx hj
theorem bit_le {c j : Nat} (h : bitN c j = 1) : 2 ^ j ≤ c := by
  rcases Nat.lt_or_ge c (2 ^ j) with h1 | h1
  · unfold bitN at h
    rw [Nat.div_eq_of_lt h1] at h
    simp at h
  · exact h1
theorem cr_lst {n : Nat} {zs : List Int} {p : Nat × Nat} (h : opn zs p = false) : crB n zs p = lstB zs p n := by
  unfold crB lstB
  rw [h]
  rfl
theorem weight_was (x : Nat) (s : Nat) (w : World) (hx : x < 16) (h : wt x = s) : Calls Try.prog 81 #[.int .i64 x] w fun e w' => e = .returned (.int .i64 (s : Nat)) ∧ w = w' := by
  subst h
  exact weight_any x w hx
theorem open_was (n : Int) (p : Nat × Nat) (c b : Int) (r : Bool) (hc : c = (p.1 : Int)) (hb : b = (p.2 : Int)) (a : Option Addr) (cap : Nat) (zs : List Int) (w : World) (hi : Ints w a zs) (hn : zs.length ≤ 1048576) (hr : ∀ x ∈ zs, 0 ≤ x ∧ x ≤ 15) (h1 : p.1 < 16) (h : opn zs p = r) :
    Calls Try.prog 101 #[.agg #[.int .i64 n, .slice a zs.length cap], .agg #[.int .i64 c, .int .i64 b]] w fun e w' => e = .returned (.bool r) ∧ Below w.heap.size w w' := by
  subst h hc hb
  exact open_any n _ _ a cap zs w hi hn hr ⟨by omega, by omega⟩ (by omega)
set_option maxHeartbeats 8000000 in
set_option maxRecDepth 100000 in
theorem critical_any (N : Nat) (a : Option Addr) (cap : Nat) (zs : List Int) (w : World) (hi : Ints w a zs) (hn : zs.length ≤ 1048576) (hN : 1 ≤ N ∧ N ≤ 4) (hr : ∀ x ∈ zs, 0 ≤ x ∧ x ≤ 15) :
    Calls Try.prog 88 #[.agg #[.int .i64 (N : Int), .slice a zs.length cap]] w fun e w' => ∃ v, e = .returned v ∧ OwnsP w' (w.heap.size + 1) v (ofP (critL N zs)) ∧ Below w.heap.size w w' := by
  obtain ⟨j0, hj0, hy0, hy1, hy2⟩ := info_parts info_part
  have C0 : CI w N a zs cap (.slice (some ⟨w.heap.size + 1, 0, none⟩) 0 0) [] 0 ((w.alloc (.cells #[.int .i64 (N : Int), .slice a zs.length cap] 26)).alloc (.cells #[] 60)) := by
    have he := OwnsP.empty (w.alloc (.cells #[.int .i64 (N : Int), .slice a zs.length cap] 26)) (base := w.heap.size + 1) (by simp)
    simp only [World.size_alloc] at he
    exact ⟨he, Nat.le_refl _, (SV.new w (N : Int) a zs cap none [] 26 hi (Ints.nil _ _)).below (bel1 _ _)⟩
  have HI := hide hi
  have HR := hide hr
  have p1 : pw (N : Int) = ((2 ^ N : Nat) : Int) := by unfold pw; rw [Int.toNat_natCast]
  have p2 : 2 ^ N ≤ 16 := Nat.pow_le_pow_right (n := 2) (by omega) hN.2
  obtain ⟨Q, hQ⟩ : ∃ Q, Q = 2 ^ N := ⟨_, rfl⟩
  rw [← hQ] at p1 p2
  have HQ := hide hQ
  have HP := hide p1
  clear hi hr p1 hQ
  go_enter Try.func88, Try.ntmps88
  go_wp2_with fail
  go_loopw [3, 4] (fun v i wq => ∃ s : Nat, s ≤ N + 1 ∧ i = .int .i64 s ∧ CI w N a zs cap v (lv0 N zs s) (s * 256) wq) (fun _ i _ => N + 1 - (intOf i).toNat)
  case atStart => exact ⟨0, Nat.zero_le _, rfl, C0.to rfl (Nat.zero_le _)⟩
  case round =>
    clear C0
    obtain ⟨s, hs, rfl, hc⟩ := hrel
    obtain ⟨va, vc, rfl, _⟩ := hc.1.form
    obtain ⟨c0, c1⟩ := hc.cells
    by_cases hlt : (s : Int) ≤ (N : Int)
    · have HC := hide (hc.to (lv1_zero N zs s) (Nat.le_refl _))
      clear hc
      go_wp2_with fail
      clear c0 c1
      go_loopw [3, 5] (fun v i wq => ∃ c : Nat, c ≤ Q ∧ i = .int .i64 c ∧ CI w N a zs cap v (lv1 N zs s c) (s * 256 + c * 16) wq) (fun _ i _ => Q - (intOf i).toNat)
      case atStart => exact ⟨0, Nat.zero_le _, rfl, HC.out⟩
      case round =>
        clear HC
        obtain ⟨c, hcq, rfl, hc⟩ := hrel
        obtain ⟨va, vc, rfl, _⟩ := hc.1.form
        obtain ⟨c0, c1⟩ := hc.cells
        by_cases hlc : c < Q
        · have HC := hide (hc.to (lv2_zero N zs s c) (Nat.le_refl _))
          clear hc
          go_wp2_with (go_at_call 39; refine (power_any _ _ (by omega) (by omega)).mono ?_; rintro e w' ⟨rfl, rfl⟩; rw [HP.out])
          clear c0 c1
          obtain ⟨wc, hwc⟩ : ∃ wc, wt c = wc := ⟨_, rfl⟩
          have HWC := hide hwc
          clear hwc
          go_loopw [3, 6] (fun v i wq => ∃ b : Nat, b ≤ c + 1 ∧ (wc = s ∨ b = 0) ∧ i = .int .i64 b ∧ CI w N a zs cap v (lv2 N zs s c b) (s * 256 + c * 16 + b) wq) (fun _ i _ => c + 1 - (intOf i).toNat)
          case atStart => exact ⟨0, Nat.zero_le _, Or.inr rfl, rfl, HC.out⟩
          case round =>
            clear HC
            obtain ⟨b, hb, hws, rfl, hc⟩ := hrel
            obtain ⟨va, vc, rfl, _⟩ := hc.1.form
            obtain ⟨c0, c1⟩ := hc.cells
            have HC := hide hc
            by_cases hbc : (b : Int) ≤ (c : Int)
            · by_cases hw : wc = s
              · have hwe : ((wc : Int) == (s : Int)) = true := by rw [hw]; simp
                have hand := hp_and (x := (b : Int)) (c := (c : Int)) (b := (b : Int)) ⟨by omega, by omega⟩ ⟨by omega, by omega⟩ (by omega)
                rw [hp_nat, Int.toNat_natCast] at hand
                have BX := bel1 wr (.cells #[.int .i64 (c : Int), .int .i64 (b : Int)] 60)
                have px := PBox.new wr (c : Int) (b : Int) 60
                have HC1 := hide (hc.below BX)
                have HPX := hide px
                clear hc
                cases he : (b &&& c == b) with
                | false =>
                  rw [he] at hand
                  have hne : (bits .and .i64 (b : Int) (c : Int) != (b : Int)) = true := by unfold bne; rw [hand]; rfl
                  go_wp2_with (go_at_call 81; refine (weight_was c wc _ (by omega) HWC.out).mono ?_; rintro e w' ⟨rfl, rfl⟩)
                  go_roundw
                  case rel => exact ⟨b + 1, by omega, Or.inl hw, by go_num, HC1.out.to (lv2_off he) (by omega)⟩
                  case measure => simp only [intOf]; omega
                | true =>
                  rw [he] at hand
                  have hne : (bits .and .i64 (b : Int) (c : Int) != (b : Int)) = false := by unfold bne; rw [hand]; rfl
                  have HE := hide he
                  obtain ⟨ob, hob⟩ : ∃ r, opn zs (c, b) = r := ⟨_, rfl⟩
                  have HOB := hide hob
                  obtain ⟨k0, k1⟩ := HC1.out.cells
                  obtain ⟨_, x0, x1⟩ := px
                  have ii := HC1.out.2.2.2.1
                  clear hob he hand c0 c1
                  go_wp2_with (go_at_call 81; refine (weight_was c wc _ (by omega) HWC.out).mono ?_; rintro e w' ⟨rfl, rfl⟩)
                  refine (open_was _ (c, b) _ _ ob rfl rfl _ _ _ _ ii hn HR.out (by show c < 16; omega) HOB.out).mono ?_
                  rintro e w5 ⟨rfl, b5⟩
                  have HC5 := hide (HC1.out.below b5)
                  have HP5 := hide (HPX.out.below b5)
                  clear k0 k1 x0 x1 ii b5
                  cases ob with
                  | true =>
                    have hcr : crB N zs (c, b) = false := by unfold crB; rw [HOB.out]; rfl
                    have HCR := hide hcr
                    clear hcr
                    go_wp2
                    go_roundw
                    case rel => exact ⟨b + 1, by omega, Or.inl hw, by go_num, HC5.out.to (lv2_no HCR.out) (by omega)⟩
                    case measure => simp only [intOf]; omega
                  | false =>
                    go_wp2_with fail
                    obtain ⟨g, hg⟩ : ∃ g, g = wr.heap.size := ⟨_, rfl⟩
                    rw [← hg] at HP5 ⊢
                    clear hg HPX HC1 BX
                    go_loopw [8, 9] (fun u i wq => ∃ (j : Nat) (B : Bool), j ≤ N ∧ i = .int .i64 j ∧ u = .bool B ∧ B = lstB zs (c, b) j ∧ CI w N a zs cap (.slice va (ofP (lv2 N zs s c b)).length vc) (lv2 N zs s c b) (s * 256 + c * 16 + b) wq ∧ PBox wq g (c : Int) (b : Int)) (fun _ i _ => N - (intOf i).toNat)
                    case atStart => exact ⟨0, true, Nat.zero_le _, rfl, rfl, rfl, HC5.out, HP5.out⟩
                    case round =>
                      clear HC5 HP5
                      obtain ⟨j, B, hj, rfl, rfl, hB, hc, px⟩ := hrel
                      have HBB := hide hB
                      obtain ⟨c0, c1⟩ := hc.cells
                      have HC6 := hide hc
                      have HP6 := hide px
                      clear hB hc
                      by_cases hlj : (j : Int) < (N : Int)
                      · clear px
                        rcases (show bitN c j = 0 ∨ bitN c j = 1 from by have := bitN_le c j; omega) with hbit | hbit
                        · have HBIT := hide hbit
                          have HNX : Hid (lstB zs (c, b) (j + 1) = B) := by unfold Hid; rw [lst_next, hbit, ← HBB.out]; simp
                          clear hbit
                          go_wp2_with (go_at_call 79; refine (bit_was c j 0 _ (by omega) (by omega) HBIT.out).mono ?_; rintro e w' ⟨rfl, rfl⟩)
                          go_roundw
                          case rel => exact ⟨j + 1, B, by omega, by go_num, rfl, HNX.out.symm, HC6.out, HP6.out⟩
                          case measure => simp only [intOf]; omega
                        · have HBIT := hide hbit
                          have hPc := bit_le hbit
                          have hPj : pw (j : Int) = ((2 ^ j : Nat) : Int) := by unfold pw; rw [Int.toNat_natCast]
                          obtain ⟨lo, hlo⟩ : ∃ r, opn zs (lessP j (c, b)) = r := ⟨_, rfl⟩
                          have hnx : lstB zs (c, b) (j + 1) = (B && lo) := by rw [lst_next, hbit, hlo, ← HBB.out]; simp
                          have HNX := hide hnx
                          have HLO := hide hlo
                          have hM := Nat.and_le_left (n := b) (m := 2 ^ j)
                          have hand2 := and_small b (2 ^ j) (by omega) (by omega)
                          have he1 : (lessP j (c, b)).1 = c - 2 ^ j := rfl
                          have he2 : (lessP j (c, b)).2 = b - (b &&& 2 ^ j) := rfl
                          have hq1 : 1 ≤ 2 ^ j := Nat.one_le_two_pow
                          obtain ⟨P, hP⟩ : ∃ P, P = 2 ^ j := ⟨_, rfl⟩
                          rw [← hP] at hPc hPj hM hand2 he1 he2 hq1
                          obtain ⟨M, hMM⟩ : ∃ M, M = b &&& P := ⟨_, rfl⟩
                          rw [← hMM] at hM hand2 he2
                          have HPJ := hide hPj
                          have HE1 := hide (show IntKind.i64.wrap ((c : Int) - (P : Int)) = (((lessP j (c, b)).1 : Nat) : Int) by rw [he1, IntKind.wrap_i64]; omega)
                          have HE2 := hide (show IntKind.i64.wrap ((b : Int) - (M : Int)) = (((lessP j (c, b)).2 : Nat) : Int) by rw [he2, IntKind.wrap_i64]; omega)
                          have HL16 := hide (show (lessP j (c, b)).1 < 16 by rw [he1]; omega)
                          clear hbit hPj hlo hnx he1 he2 hP hMM
                          cases B with
                          | false =>
                            go_wp2_with (go_at_call 79; refine (bit_was c j 1 _ (by omega) (by omega) HBIT.out).mono ?_; rintro e w' ⟨rfl, rfl⟩)
                            go_quiet (fail)
                            go_wp2
                            go_roundw
                            case rel => exact ⟨j + 1, false, by omega, by go_num, rfl, by rw [HNX.out]; rfl, HC6.out.below (belN _ _), HP6.out.below (belN _ _)⟩
                            case measure => simp only [intOf]; omega
                          | true =>
                            have HD6 := hide (HC6.out.below (bdrew' (Below.refl wr.heap.size wr)))
                            have HDP := hide (HP6.out.below (bdrew' (Below.refl wr.heap.size wr)))
                            have HCD := hide HD6.out.cells
                            have iid := HD6.out.2.2.2.1
                            go_upto_region 18 with (go_at_call 79; refine (bit_was c j 1 _ (by omega) (by omega) HBIT.out).mono ?_; rintro e w' ⟨rfl, rfl⟩)
                            go_region_held3 (fun w' => w'.cell? ⟨w.heap.size, 0, none⟩ = some (.int .i64 (N : Int)) ∧ w'.cell? ⟨w.heap.size, 1, none⟩ = some (.slice a zs.length cap))
                              (first | go_keep | exact HC8.out.cells | exact HCD.out)
                              (first
                                | (go_at_call 39; refine (power_any _ _ (by omega) (by omega)).mono ?_; rintro e w' ⟨rfl, rfl⟩; rw [HPJ.out])
                                | (go_at_call 101; refine (open_was _ (lessP j (c, b)) _ _ lo HE1.out HE2.out _ _ _ _ iid hn HR.out HL16.out HLO.out).mono ?_; rintro e w8 ⟨rfl, b8⟩; have HC8 := hide (HD6.out.below b8); have HP8 := hide (HDP.out.below b8); clear b8))
                            all_goals
                              go_wp2
                              go_roundw
                              case rel => exact ⟨j + 1, lo, by omega, by go_num, rfl, by rw [HNX.out]; rfl, HC8.out, HP8.out⟩
                              case measure => simp only [intOf]; omega
                      · obtain rfl : j = N := by omega
                        have hcr := (cr_lst (n := j) HOB.out).trans HBB.out.symm
                        have HCR := hide hcr
                        obtain ⟨hgl, x0, x1⟩ := px
                        clear hcr
                        cases B with
                        | false =>
                          go_wp2
                          go_roundw
                          case rel => exact ⟨b + 1, by omega, Or.inl hw, by go_num, HC6.out.to (lv2_no HCR.out) (by omega)⟩
                          case measure => simp only [intOf]; omega
                        | true =>
                          have hop := HC6.out.1
                          have hws : w.heap.size + 1 ≤ wr.heap.size := by have := HC6.out.2.2.1.1; omega
                          have hl2 := HC6.out.2.1
                          have hol : (ofP (lv2 j zs s c b)).length ≤ s * 256 + c * 16 + b := by unfold ofP; rw [List.length_map]; exact hl2
                          go_wp2_with ((at_builtin; refine wpList_append_own _ rfl _ _ 37 rfl (w.heap.size + 1) 60 j0 (.agg #[.int .i64 0, .int .i64 0]) 2 16 Try.underlying37 hj0 hy0 hy1 hy2 rfl (by decide) _ _ _ rfl (hop.alloc _) ⟨wr.heap.size, 0, none⟩ 1 1 [.int .i64 (c : Int), .int .i64 (b : Int)] rfl rfl (World.news_of_block (cs := #[.int .i64 (c : Int), .int .i64 (b : Int)]) (t := 60) (fr := (0, 0)) (heap_alloc_new wr _)) (by intro u hu; simp at hu; rcases hu with rfl | rfl <;> rfl) (by unfold maxLen; omega) (by omega) (by first | omega | (simp; omega)) ?_))
                          intro v' w6 hown' hgrow _
                          have V6 := (HC6.out.below (bel1 wr (.cells #[.int .i64 (c : Int), .int .i64 (b : Int)] 60))).push HI.out hgrow hown'
                          rw [← lv2_yes HE.out HCR.out] at V6
                          obtain ⟨qa, qc, rfl, _⟩ := V6.1.form
                          have HV6 := hide V6
                          clear hop hown' hgrow V6 x0 x1 c0 c1
                          go_wp2
                          go_roundw
                          case rel => exact ⟨b + 1, by omega, Or.inl hw, by go_num, HV6.out⟩
                          case measure => simp only [intOf]; omega
              · have hwe : ((wc : Int) == (s : Int)) = false := by rw [beq_eq_false_iff_ne]; omega
                have HB0 := hide (show b = 0 from hws.resolve_left hw)
                clear hc
                go_wp2_with (go_at_call 81; refine (weight_was c wc _ (by omega) HWC.out).mono ?_; rintro e w' ⟨rfl, rfl⟩)
                go_roundw
                case rel => exact ⟨c + 1, by omega, by go_num, HC.out.to (by rw [HB0.out, lv2_zero]; exact lv1_skip (by rw [HWC.out]; exact hw)) (by omega)⟩
                case measure => simp only [intOf]; omega
            · obtain rfl : b = c + 1 := by omega
              have hw : wc = s := hws.resolve_right (by omega)
              clear hc
              go_wp2_with fail
              go_roundw
              case rel => exact ⟨c + 1, by omega, by go_num, HC.out.to (lv2_end (by rw [HWC.out]; exact hw)).symm (by omega)⟩
              case measure => simp only [intOf]; omega
        · obtain rfl : c = Q := by omega
          have HC := hide (hc.to (l' := lv0 N zs (s + 1)) (K' := (s + 1) * 256) (by rw [HQ.out]; exact (lv1_end N zs s).symm) (by omega))
          clear hc
          go_wp2_with (go_at_call 39; refine (power_any _ _ (by omega) (by omega)).mono ?_; rintro e w' ⟨rfl, rfl⟩; rw [HP.out])
          go_roundw
          case rel => exact ⟨s + 1, by omega, by go_num, HC.out⟩
          case measure => simp only [intOf]; omega
    · obtain rfl : s = N + 1 := by omega
      have HC := hide hc
      clear hc
      go_wp2
      go_ret
      exact ⟨_, rfl, HC.out.1, HC.out.2.2.2.2.2⟩
end Go.Proofs.Ytbnnblfgpdfmpaa

/- CrP: CriticalParts of the model. -/
namespace Go.Proofs.Ytbnnblfgpdfmpaa
open Go.RowKit Go.Joins

/-- what CriticalParts answers -/
def crR (n : Int) (zs : List Int) : List (Int × Int) := if vsB n zs = true then ofP (critL n.toNat zs) else []
theorem crR_no {n : Int} {zs : List Int} (h : vsB n zs = false) : crR n zs = [] := by unfold crR; rw [if_neg (by rw [h]; simp)]
theorem crR_yes {n : Int} {zs : List Int} (h : vsB n zs = true) : crR n zs = ofP (critL n.toNat zs) := if_pos h
theorem OwnsP.le {w : World} {base base' : Nat} {v : Value} {ps : List (Int × Int)} (h : OwnsP w base v ps) (hb : base' ≤ base) : OwnsP w base' v ps := ownsRow_le h hb
/-- a slice of parts of its own memory -/
def GivesP (ps : List (Int × Int)) (w : World) (e : Ending) (w' : World) : Prop := ∃ v, e = .returned v ∧ OwnsP w' w.heap.size v ps ∧ Below w.heap.size w w'
end Go.Proofs.Ytbnnblfgpdfmpaa

/- CrE: Critical parts: which parts a judgment has. Plain mathematics. -/
namespace Go.Proofs.Ytbnnblfgpdfmpaa
open Go.RowKit Go.Joins

set_option maxRecDepth 100000 in
theorem ord_all : range5 (fun n => (List.range (2 ^ n)).all fun c => (List.range (2 ^ n)).all fun b => !(b &&& c == b) || (ordL n).contains (c, b)) = true := by decide +kernel
theorem ord_mem {n : Nat} (hn : n ≤ 4) {c b : Nat} (hc : c < 2 ^ n) (hb : b &&& c = b) : (c, b) ∈ ordL n := by
  have hb' : b < 2 ^ n := by
    have : b &&& c ≤ c := Nat.and_le_right
    omega
  have h := range5_of ord_all hn
  rw [List.all_eq_true] at h
  have h1 := h c (List.mem_range.2 hc)
  rw [List.all_eq_true] at h1
  have h2 := h1 b (List.mem_range.2 hb')
  rw [show (b &&& c == b) = true from by simpa using hb] at h2
  simpa using h2
theorem crit_mem {n : Nat} {zs : List Int} {m : Nat × Nat} : m ∈ critL n zs ↔ m ∈ ordL n ∧ crB n zs m = true := List.mem_filter
/-- open exactly if no critical part lies in it -/
theorem opn_crit {n : Nat} (hn : n ≤ 4) (zs : List Int) {p : Nat × Nat} (hp : p ∈ ordL n) : opn zs p = !(critL n zs).any fun m => subP m p := by
  rw [Bool.eq_iff_iff, Bool.not_eq_true', List.any_eq_false]
  constructor
  · intro ho m hm hs
    have := (cr_iff.1 (crit_mem.1 hm).2).1
    rw [opn_sub hs ho] at this
    cases this
  · intro h
    rcases Bool.eq_false_or_eq_true (opn zs p) with ho | ho
    · exact ho
    · obtain ⟨m, hm, hc, hs⟩ := cr_ex hn zs _ p hp (Nat.le_refl _) ho
      exact absurd hs (h m (crit_mem.2 ⟨hm, hc⟩))
theorem and_full {n x : Nat} (hx : x < 2 ^ n) : x &&& (2 ^ n - 1) = x := by rw [Nat.and_two_pow_sub_one_eq_mod, Nat.mod_eq_of_lt hx]
theorem sub_full {N : Nat} {m : Nat × Nat} (hm : m.1 < 2 ^ N) (x : Nat) : subP m (2 ^ N - 1, x) = (x &&& m.1 == m.2) := by
  unfold subP
  rw [and_full hm]
  simp
theorem full_mem {n : Nat} (hn : n ≤ 4) {x : Nat} (hx : x < 2 ^ n) : (2 ^ n - 1, x) ∈ ordL n :=
  ord_mem hn (by have := Nat.two_pow_pos n; omega) (and_full hx)
theorem opn_full {N : Nat} {zs : List Int} (hV : Valid (N : Int) zs) {x : Nat} (hx : x < 2 ^ N) : opn zs (2 ^ N - 1, x) = true ↔ (x : Int) ∈ zs := by
  rw [opn_iff]
  constructor
  · rintro ⟨z, hz, e⟩
    have h1 := valid_lt hV hz
    rw [and_full h1.2] at e
    have e2 : (x : Int) = z := by
      have e' : z.toNat = x := e
      omega
    rw [e2]
    exact hz
  · intro h
    exact ⟨(x : Int), h, by rw [Int.toNat_natCast]; exact and_full hx⟩
/-- a critical part answers something, and is a part that is not open -/
theorem crit_pt {N : Nat} {zs : List Int} (hV : Valid (N : Int) zs) {m : Nat × Nat} (hm : m ∈ critL N zs) : m.1 ≠ 0 ∧ IsPt (N : Int) (m.1 : Int) (m.2 : Int) ∧ openB zs (m.1 : Int) (m.2 : Int) = false ∧ m.1 < 16 ∧ m.2 < 16 := by
  have hn : N ≤ 4 := by have := hV.1; omega
  obtain ⟨h1, h2⟩ := crit_mem.1 hm
  have hf := ord_facts hn h1
  have ho := (cr_iff.1 h2).1
  have e : pw (N : Int) = ((2 ^ N : Nat) : Int) := by unfold pw; rw [Int.toNat_natCast]
  have p2 : 2 ^ N ≤ 16 := Nat.pow_le_pow_right (n := 2) (by omega) hn
  have hb : m.2 ≤ m.1 := by rw [← hf.2.1]; exact Nat.and_le_right
  refine ⟨fun h0 => ?_, ⟨⟨by omega, by omega⟩, ⟨by omega, by omega⟩, by rw [Int.toNat_natCast, Int.toNat_natCast]; exact hf.2.1⟩, ho, by omega, by omega⟩
  have hx : opn zs m = true := by
    rw [opn_iff]
    have hpos := hV.2.1
    refine ⟨zs[0], List.getElem_mem hpos, ?_⟩
    rw [h0, Nat.and_zero]
    omega
  rw [ho] at hx
  cases hx

set_option maxRecDepth 100000 in
theorem less_chk : ((List.range 16).all fun c => (List.range 16).all fun b => (List.range 4).all fun i => !(bitN c i == 1 && b &&& c == b) || (List.range 16).all fun x => !(x &&& (c - 2 ^ i) == b - (b &&& 2 ^ i)) || (List.range 4).all fun t => t == i || bitN (x &&& c) t == bitN b t) = true := by decide +kernel
theorem less_bit {c b i x t : Nat} (hc : c < 16) (hb : b &&& c = b) (hi : i < 4) (hx : x < 16) (hci : bitN c i = 1) (he : x &&& (c - 2 ^ i) = b - (b &&& 2 ^ i)) (ht : t < 4) (hne : t ≠ i) : bitN (x &&& c) t = bitN b t := by
  have hb16 : b < 16 := by
    have : b &&& c ≤ c := Nat.and_le_right
    omega
  have h := less_chk
  rw [List.all_eq_true] at h
  have h1 := h c (List.mem_range.2 hc)
  rw [List.all_eq_true] at h1
  have h2 := h1 b (List.mem_range.2 hb16)
  rw [List.all_eq_true] at h2
  have h3 := h2 i (List.mem_range.2 hi)
  rw [show (bitN c i == 1 && b &&& c == b) = true from by simp [hci, hb], Bool.not_true, Bool.false_or, List.all_eq_true] at h3
  have h4 := h3 x (List.mem_range.2 hx)
  rw [show (x &&& (c - 2 ^ i) == b - (b &&& 2 ^ i)) = true from by simpa using he, Bool.not_true, Bool.false_or, List.all_eq_true] at h4
  have h5 := h4 t (List.mem_range.2 ht)
  rw [show (t == i) = false from by simpa using hne, Bool.false_or, beq_iff_eq] at h5
  exact h5
theorem bits_ext {a b : Nat} (ha : a < 16) (hb : b < 16) (h : ∀ t, t < 4 → bitN a t = bitN b t) : a = b := by
  have h0 := h 0 (by omega)
  have h1 := h 1 (by omega)
  have h2 := h 2 (by omega)
  have h3 := h 3 (by omega)
  unfold bitN at h0 h1 h2 h3
  simp only [Nat.reducePow] at h0 h1 h2 h3
  omega
end Go.Proofs.Ytbnnblfgpdfmpaa

/- CrN: Critical parts: what the laws say of them. Plain mathematics. -/
namespace Go.Proofs.Ytbnnblfgpdfmpaa
open Go.RowKit Go.Joins

theorem free_of (L : List (Nat × Nat)) (x : Nat) : freeB (ofP L) (x : Int) = L.all fun m => !(x &&& m.1 == m.2) := by
  unfold freeB ofP
  rw [List.all_map]
  exact congrArg (fun g => L.all g) (funext fun m => by
    show (!hpB (x : Int) (m.1 : Int) (m.2 : Int)) = _
    rw [hp_nat, Int.toNat_natCast])
theorem swK_of {N : Nat} {zs : List Int} (hV : Valid (N : Int) zs) {ps : List (Int × Int)} (h : ∀ x : Nat, x < 2 ^ N → (freeB ps (x : Int) = true ↔ (x : Int) ∈ zs)) : swK ps (2 ^ N) = zs := by
  have e : (List.range (2 ^ N)).filter (fun (x : Nat) => freeB ps (x : Int)) = zs.map Int.toNat := by
    refine asc_ext _ _ (asc_filter (asc_range _) _) (valid_nat hV).1 (fun x => ?_)
    rw [List.mem_filter, List.mem_range, List.mem_map]
    constructor
    · rintro ⟨h1, h2⟩
      exact ⟨(x : Int), (h x h1).1 h2, Int.toNat_natCast x⟩
    · rintro ⟨z, hz, rfl⟩
      have h1 := valid_lt hV hz
      refine ⟨h1.2, (h _ h1.2).2 ?_⟩
      rw [Int.toNat_of_nonneg h1.1]
      exact hz
  unfold swK
  rw [e, List.map_map]
  refine (List.map_congr_left (fun z hz => ?_)).trans (List.map_id zs)
  have h1 := valid_lt hV hz
  show ((z.toNat : Nat) : Int) = z
  omega
/-- the space without its critical parts is the space -/
theorem sw_crit {N : Nat} {zs : List Int} (hV : Valid (N : Int) zs) : swK (ofP (critL N zs)) (2 ^ N) = zs := by
  have hn : N ≤ 4 := by have := hV.1; omega
  refine swK_of hV (fun x hx => ?_)
  rw [← opn_full hV hx, opn_crit hn zs (full_mem hn hx), free_of, List.all_eq_true, Bool.not_eq_true', List.any_eq_false]
  constructor
  · intro h m hm hs
    rw [sub_full (ord_facts hn (crit_mem.1 hm).1).1] at hs
    have := h m hm
    rw [hs] at this
    cases this
  · intro h m hm
    have := h m hm
    rw [sub_full (ord_facts hn (crit_mem.1 hm).1).1] at this
    simpa using this
/-! ### medians -/
set_option maxRecDepth 100000 in
theorem med_chk : ((List.range 16).all fun c => decide (2 < wt c) || (List.range 16).all fun x => (List.range 16).all fun y => (List.range 16).all fun z => (med x y z &&& c == x &&& c) || (med x y z &&& c == y &&& c) || (med x y z &&& c == z &&& c)) = true := by decide +kernel
theorem med_two {c x y z : Nat} (hc : c < 16) (hw : wt c ≤ 2) (hx : x < 16) (hy : y < 16) (hz : z < 16) : med x y z &&& c = x &&& c ∨ med x y z &&& c = y &&& c ∨ med x y z &&& c = z &&& c := by
  have h := med_chk
  rw [List.all_eq_true] at h
  have h1 := h c (List.mem_range.2 hc)
  rw [show decide (2 < wt c) = false from decide_eq_false (by omega), Bool.false_or, List.all_eq_true] at h1
  have h2 := h1 x (List.mem_range.2 hx)
  rw [List.all_eq_true] at h2
  have h3 := h2 y (List.mem_range.2 hy)
  rw [List.all_eq_true] at h3
  have h4 := h3 z (List.mem_range.2 hz)
  simp only [Bool.or_eq_true, beq_iff_eq] at h4
  rcases h4 with (h4 | h4) | h4
  · exact .inl h4
  · exact .inr (.inl h4)
  · exact .inr (.inr h4)
set_option maxRecDepth 100000 in
theorem three_chk : ((List.range 16).all fun c => decide (wt c ≤ 2) || (List.range 4).any fun i => (List.range 4).any fun j => (List.range 4).any fun k => decide (i < j) && decide (j < k) && (bitN c i == 1) && (bitN c j == 1) && (bitN c k == 1)) = true := by decide +kernel
theorem three_of {c : Nat} (hc : c < 16) (hw : ¬ wt c ≤ 2) : ∃ i j k, i < j ∧ j < k ∧ k < 4 ∧ bitN c i = 1 ∧ bitN c j = 1 ∧ bitN c k = 1 := by
  have h := three_chk
  rw [List.all_eq_true] at h
  have h1 := h c (List.mem_range.2 hc)
  rw [decide_eq_false hw, Bool.false_or, List.any_eq_true] at h1
  obtain ⟨i, _, h2⟩ := h1
  rw [List.any_eq_true] at h2
  obtain ⟨j, _, h3⟩ := h2
  rw [List.any_eq_true] at h3
  obtain ⟨k, hk, h4⟩ := h3
  simp only [Bool.and_eq_true, decide_eq_true_eq, beq_iff_eq] at h4
  obtain ⟨⟨⟨⟨a, b⟩, d⟩, e⟩, f⟩ := h4
  exact ⟨i, j, k, a, b, List.mem_range.1 hk, d, e, f⟩
set_option maxRecDepth 100000 in
theorem mbit_chk : ∀ x : Fin 16, ∀ y : Fin 16, ∀ z : Fin 16, ∀ j : Fin 4, bitN (med x.val y.val z.val) j.val = if 2 ≤ bitN x.val j.val + bitN y.val j.val + bitN z.val j.val then 1 else 0 := by decide +kernel
theorem mbit {x y z j : Nat} (hx : x < 16) (hy : y < 16) (hz : z < 16) (hj : j < 4) : bitN (med x y z) j = if 2 ≤ bitN x j + bitN y j + bitN z j then 1 else 0 := mbit_chk ⟨x, hx⟩ ⟨y, hy⟩ ⟨z, hz⟩ ⟨j, hj⟩
theorem med_and (x y z c : Nat) : med x y z &&& c = med (x &&& c) (y &&& c) (z &&& c) := by
  unfold med
  apply Nat.eq_of_testBit_eq
  intro i
  simp only [Nat.testBit_or, Nat.testBit_and]
  cases x.testBit i <;> cases y.testBit i <;> cases z.testBit i <;> cases c.testBit i <;> rfl
/-- closed under medians, said of its judgments -/
theorem closed_mem {f : Nat → Nat → Nat → Nat} (J : Join f) {n : Int} {zs : List Int} (h : Valid n zs) : closedB f n zs = true ↔ ∀ a b c : Nat, (a : Int) ∈ zs → (b : Int) ∈ zs → (c : Int) ∈ zs → ((f a b c : Nat) : Int) ∈ zs := by
  rw [closed_iff J h]
  constructor
  · intro hc a b c ha hb hcc
    have at_ : ∀ t : Nat, (t : Int) ∈ zs → ∃ i, i < zs.length ∧ zN zs i = t := fun t ht => by
      obtain ⟨i, hi, e⟩ := List.getElem_of_mem ht
      exact ⟨i, hi, by unfold zN; rw [getD_lt hi, e]; simp⟩
    obtain ⟨i, hi, rfl⟩ := at_ a ha
    obtain ⟨j, hj, rfl⟩ := at_ b hb
    obtain ⟨k, hk, rfl⟩ := at_ c hcc
    exact hc i j k hi hj hk
  · intro hc i j k hi hj hk
    have hm : ∀ i, i < zs.length → ((zN zs i : Nat) : Int) ∈ zs := fun i hi => by
      have h1 := valid_range h _ (List.getElem_mem hi)
      have e : ((zN zs i : Nat) : Int) = zs[i] := by unfold zN; rw [getD_lt hi]; omega
      rw [e]
      exact List.getElem_mem hi
    exact hc _ _ _ (hm i hi) (hm j hj) (hm k hk)
/-- a space with small critical parts alone is closed under medians -/
theorem median_small {N : Nat} {zs : List Int} (hV : Valid (N : Int) zs) : closedB med (N : Int) zs = (critL N zs).all fun m => decide (wt m.1 ≤ 2) := by
  have hn : N ≤ 4 := by have := hV.1; omega
  have p2 : 2 ^ N ≤ 16 := Nat.pow_le_pow_right (n := 2) (by omega) hn
  rw [Bool.eq_iff_iff, closed_mem join_med hV, List.all_eq_true]
  constructor
  · intro hc m hm
    rw [decide_eq_true_iff]
    refine Classical.byContradiction fun hw => ?_
    obtain ⟨_, hpt, ho, h16, hb16⟩ := crit_pt hV hm
    have hf := ord_facts hn (crit_mem.1 hm).1
    have hcr := (cr_iff.1 (crit_mem.1 hm).2).2
    obtain ⟨i, j, k, hij, hjk, hk4, bi, bj, bk⟩ := three_of h16 hw
    have hlt : ∀ t, bitN m.1 t = 1 → t < N := fun t ht => by
      refine Classical.byContradiction fun h => ?_
      have h1 : m.1 < 2 ^ t := Nat.lt_of_lt_of_le hf.1 (Nat.pow_le_pow_right (by omega) (by omega))
      unfold bitN at ht
      rw [Nat.div_eq_of_lt h1] at ht
      omega
    have wit : ∀ t, bitN m.1 t = 1 → ∃ x : Nat, (x : Int) ∈ zs ∧ x < 16 ∧ x &&& (m.1 - 2 ^ t) = m.2 - (m.2 &&& 2 ^ t) := fun t ht => by
      obtain ⟨z, hz, e⟩ := opn_iff.1 (hcr t (hlt t ht) ht)
      have h1 := valid_lt hV hz
      exact ⟨z.toNat, by rw [Int.toNat_of_nonneg h1.1]; exact hz, by omega, e⟩
    obtain ⟨x, mx, x16, ex⟩ := wit i bi
    obtain ⟨y, my, y16, ey⟩ := wit j bj
    obtain ⟨z, mz, z16, ez⟩ := wit k bk
    have hmem := hc x y z mx my mz
    have hX : ∀ u, u &&& m.1 < 16 := fun u => by
      have : u &&& m.1 ≤ m.1 := Nat.and_le_right
      omega
    have he : med x y z &&& m.1 = m.2 := by
      rw [med_and]
      refine bits_ext (join_med.lt _ _ _ (hX x) (hX y) (hX z)) hb16 (fun t ht => ?_)
      rw [mbit (hX x) (hX y) (hX z) ht]
      have l1 := bitN_le (x &&& m.1) t
      have l2 := bitN_le (y &&& m.1) t
      have l3 := bitN_le (z &&& m.1) t
      have l4 := bitN_le m.2 t
      have a1 : t ≠ i → bitN (x &&& m.1) t = bitN m.2 t := less_bit h16 hf.2.1 (by omega) x16 bi ex ht
      have a2 : t ≠ j → bitN (y &&& m.1) t = bitN m.2 t := less_bit h16 hf.2.1 (by omega) y16 bj ey ht
      have a3 : t ≠ k → bitN (z &&& m.1) t = bitN m.2 t := less_bit h16 hf.2.1 (by omega) z16 bk ez ht
      by_cases e1 : t = i
      · have b2 := a2 (by omega)
        have b3 := a3 (by omega)
        split <;> omega
      · have b1 := a1 e1
        by_cases e2 : t = j
        · have b3 := a3 (by omega)
          split <;> omega
        · have b2 := a2 e2
          split <;> omega
    have hop : opn zs m = true := opn_iff.2 ⟨_, hmem, by rw [Int.toNat_natCast]; exact he⟩
    have hno : opn zs m = false := ho
    rw [hop] at hno
    cases hno
  · intro hall a b c ha hb hcc
    have lt_ : ∀ t : Nat, (t : Int) ∈ zs → t < 2 ^ N := fun t ht => by
      have := valid_lt hV ht
      omega
    have hm2 : med a b c < 2 ^ N := by
      unfold med
      exact Nat.or_lt_two_pow (Nat.or_lt_two_pow (Nat.and_lt_two_pow _ (lt_ b hb)) (Nat.and_lt_two_pow _ (lt_ c hcc))) (Nat.and_lt_two_pow _ (lt_ c hcc))
    rw [← opn_full hV hm2, opn_crit hn zs (full_mem hn hm2), Bool.not_eq_true', List.any_eq_false]
    intro m hm hs
    obtain ⟨_, _, ho, h16, _⟩ := crit_pt hV hm
    rw [sub_full (ord_facts hn (crit_mem.1 hm).1).1, beq_iff_eq] at hs
    have hw := hall m hm
    rw [decide_eq_true_iff] at hw
    have hno : opn zs m = false := ho
    have yes : ∀ t : Nat, (t : Int) ∈ zs → t &&& m.1 = m.2 → False := fun t ht e => by
      have : opn zs m = true := opn_iff.2 ⟨(t : Int), ht, by rw [Int.toNat_natCast]; exact e⟩
      rw [this] at hno
      cases hno
    rcases med_two (x := a) (y := b) (z := c) h16 hw (by have := lt_ a ha; omega) (by have := lt_ b hb; omega) (by have := lt_ c hcc; omega) with e | e | e
    · exact yes a ha (e.symm.trans hs)
    · exact yes b hb (e.symm.trans hs)
    · exact yes c hcc (e.symm.trans hs)
end Go.Proofs.Ytbnnblfgpdfmpaa

/- CrC: The least median space and the small critical parts. Plain mathematics. -/
namespace Go.Proofs.Ytbnnblfgpdfmpaa
open Go.RowKit Go.Joins

theorem medlt (N : Nat) : ∀ x y z, x < 2 ^ N → y < 2 ^ N → z < 2 ^ N → med x y z < 2 ^ N := fun x y z _ hy hz => by
  unfold med
  exact Nat.or_lt_two_pow (Nat.or_lt_two_pow (Nat.and_lt_two_pow _ hy) (Nat.and_lt_two_pow _ hz)) (Nat.and_lt_two_pow _ hz)
/-- the critical parts that answer at most two issues -/
def critS (n : Nat) (zs : List Int) : List (Nat × Nat) := (critL n zs).filter fun m => decide (wt m.1 ≤ 2)
theorem small_clo {N : Nat} {zs : List Int} (hV : Valid (N : Int) zs) : swK (ofP (critS N zs)) (2 ^ N) = cloT med zs := by
  have hn : N ≤ 4 := by have := hV.1; omega
  have p2 : 2 ^ N ≤ 16 := Nat.pow_le_pow_right (n := 2) (by omega) hn
  have hC := clo_valid join_med (medlt N) hV
  have hcl := clo_closed join_med (medlt N) hV
  refine swK_of hC (fun x hx => ?_)
  rw [free_of, List.all_eq_true]
  constructor
  · intro hfree
    rw [← opn_full hC hx]
    rcases Bool.eq_false_or_eq_true (opn (cloT med zs) (2 ^ N - 1, x)) with h | h
    · exact h
    · exfalso
      rw [opn_crit hn _ (full_mem hn hx), Bool.not_eq_false', List.any_eq_true] at h
      obtain ⟨p, hp, hs⟩ := h
      rw [median_small hC, List.all_eq_true] at hcl
      have hw := hcl p hp
      rw [decide_eq_true_iff] at hw
      have hpo := (crit_mem.1 hp).1
      have hno : opn (cloT med zs) p = false := (cr_iff.1 (crit_mem.1 hp).2).1
      have hnz : opn zs p = false := by
        rcases Bool.eq_false_or_eq_true (opn zs p) with h1 | h1
        · exfalso
          obtain ⟨z, hz, e⟩ := opn_iff.1 h1
          have hz0 := valid_lt hV hz
          have hz' : ((z.toNat : Nat) : Int) ∈ zs := by rw [Int.toNat_of_nonneg hz0.1]; exact hz
          have : opn (cloT med zs) p = true := opn_iff.2 ⟨_, clo_mem hV hz', by rw [Int.toNat_natCast]; exact e⟩
          rw [this] at hno
          cases hno
        · exact h1
      obtain ⟨m, hm, hc, hsm⟩ := cr_ex hn zs _ p hpo (Nat.le_refl _) hnz
      have hwm : wt m.1 ≤ 2 := by
        by_cases e : m = p
        · rw [e]; exact hw
        · have := (sub_facts hn hpo hm hsm e).1
          omega
      have hmS : m ∈ critS N zs := List.mem_filter.2 ⟨crit_mem.2 ⟨hm, hc⟩, by simpa using hwm⟩
      have h1 := hfree m hmS
      have h2 := subP_trans hsm hs
      rw [sub_full (ord_facts hn hm).1] at h2
      rw [h2] at h1
      cases h1
  · intro hx' m hm
    obtain ⟨hmc, hw⟩ := List.mem_filter.1 hm
    rw [decide_eq_true_iff] at hw
    obtain ⟨_, _, ho, h16, _⟩ := crit_pt hV hmc
    have hno : opn zs m = false := ho
    have hT : ∀ y ∈ clo med (zs.map Int.toNat), y < 16 ∧ y &&& m.1 ≠ m.2 := by
      refine cloK_min join_med (T := fun y => y < 16 ∧ y &&& m.1 ≠ m.2) (fun a b c ha hb hc => ⟨join_med.lt _ _ _ ha.1 hb.1 hc.1, fun e => ?_⟩) _ _ (valid_nat hV).2 (fun y hy => ?_)
      · rcases med_two h16 hw ha.1 hb.1 hc.1 with e1 | e1 | e1
        · exact ha.2 (e1.symm.trans e)
        · exact hb.2 (e1.symm.trans e)
        · exact hc.2 (e1.symm.trans e)
      · refine ⟨(valid_nat hV).2 y hy, fun e => ?_⟩
        obtain ⟨z, hz, rfl⟩ := List.mem_map.1 hy
        have : opn zs m = true := opn_iff.2 ⟨z, hz, e⟩
        rw [this] at hno
        cases hno
    unfold cloT at hx'
    obtain ⟨y, hy, e⟩ := List.mem_map.1 hx'
    obtain rfl : y = x := by omega
    have := (hT y hy).2
    simpa using this
theorem sw_yes {N : Nat} {zs : List Int} (hV : Valid (N : Int) zs) {L : List (Nat × Nat)} (hL : ∀ m ∈ L, m ∈ critL N zs) (hl : L.length ≤ 10) {C : List Int} (hC : swK (ofP L) (2 ^ N) = C) (hp : 0 < C.length) : swN (N : Int) (ofP L) = N ∧ swL (N : Int) (ofP L) = C ∧ swB (N : Int) (ofP L) = true := by
  have hy : SwYes (N : Int) (ofP L) := by
    refine ⟨⟨hV.1, by unfold ofP; rw [List.length_map]; exact hl, fun j hj => ?_⟩, by rw [Int.toNat_natCast, hC]; omega⟩
    have hj' : j < L.length := by unfold ofP at hj; rwa [List.length_map] at hj
    have h1 := (crit_pt hV (hL _ (List.getElem_mem hj'))).2.1
    have e : (ofP L).getD j (0, 0) = ((L[j].1 : Int), (L[j].2 : Int)) := by
      unfold ofP
      rw [List.getD_eq_getElem?_getD, List.getElem?_map, List.getElem?_eq_getElem hj']
      rfl
    rw [e]
    exact h1
  unfold swN swL swB
  rw [if_pos hy, if_pos hy, Int.toNat_natCast, hC]
  exact ⟨rfl, rfl, decide_eq_true hy⟩
end Go.Proofs.Ytbnnblfgpdfmpaa

/- MapB: Maps of bools of the call's own: looking up. -/
namespace Go.Proofs.Ytbnnblfgpdfmpaa
open Go Go.ChangeMaps Go.MapKept Go.WideShapes
open Go.Maps (Keyed)

theorem plainElem_bool_inv {H : Type} {P : Program} {e : TypeId} (he : P.underlying e = some .bool) {v : Value} {z : DataW H × List MemPlace} (h : plainElem P e v = some z) : ∃ x, v = .bool x ∧ z = (.lit (.bool x), []) := by
  unfold plainElem at h
  rw [he] at h
  cases v <;> simp at h
  rename_i x
  exact ⟨x, rfl, h.symm⟩
theorem lookup_bool {H : Type} {P : Program} {w : World} {k t e : TypeId} {b n : Nat} {D : DataW H} (h : w.ownsMap P k (plainElem P e) b n D) (K : Keyed P k) (ht : P.underlying t = some (.map k e)) (he : P.underlying e = some .bool) (hz : (zeroValue e).run P w = .ok (.bool false) w)
    {key : Value} {kl : Lit} (hkey : keyOf P k key = some kl) : ∃ x, (Instr.lookup t (.map (some b)) key false).run P w = .ok (.bool x) w ∧ D.atKey kl (.lit (.bool false)) = .lit (.bool x) := by
  obtain ⟨v, ps, hrun, hv⟩ := h.lookup K ht hz (plainElem_bool he false) hkey
  obtain ⟨x, rfl, hx⟩ := plainElem_bool_inv he hv
  simp only [Prod.mk.injEq] at hx
  exact ⟨x, hrun, hx.1⟩
end Go.Proofs.Ytbnnblfgpdfmpaa

/- MapK: A part as a map's key. -/
namespace Go.Proofs.Ytbnnblfgpdfmpaa
open Go

/-- how a part stands as a key -/
def litP (c b : Int) : Lit := .string (keyBytes [.int .i64 c, .int .i64 b])
theorem part_cells : Try.prog.cellsOf 60 = 2 := by kernel_rfl
theorem int_cells : Try.prog.cellsOf 3 = 1 := by kernel_rfl
theorem part_keyType : Try.prog.keyType 60 = true := by kernel_rfl
set_option maxRecDepth 20000 in
theorem part_key (c b : Int) (hc : (Lit.int .i64 c).wf = true) (hb : (Lit.int .i64 b).wf = true) : keyOf Try.prog 60 (.agg #[.int .i64 c, .int .i64 b]) = some (litP c b) := by
  unfold keyOf
  rw [Try.underlying60]
  simp only [part_keyType, Bool.true_and]
  have hf : (Value.agg #[.int .i64 c, .int .i64 b]).formed Try.prog 60 = true := by simp [Value.formed, Try.underlying60, part_cells]
  rw [if_pos hf]
  have hl : Try.prog.keyLits (Try.prog.types.size + 1) 60 (Value.agg #[.int .i64 c, .int .i64 b]).cells.toList = some [.int .i64 c, .int .i64 b] := by
    have h0 : 0 < Try.prog.types.size := of_decide_eq_true (by kernel_rfl)
    obtain ⟨d, hd⟩ : ∃ d, Try.prog.types.size = d + 1 := ⟨Try.prog.types.size - 1, by omega⟩
    have hk : ∀ x : Int, (Lit.int .i64 x).wf = true → Try.prog.keyLits (d + 1) 3 [.int .i64 x] = some [.int .i64 x] := fun x hx => by
      unfold Program.keyLits
      rw [Try.underlying3]
      simp only [hx, and_self, if_true]
    rw [hd]
    unfold Program.keyLits
    rw [Try.underlying60]
    have e : (Value.agg #[.int .i64 c, .int .i64 b]).cells.toList = [.int .i64 c, .int .i64 b] := rfl
    rw [e]
    simp [part_cells, int_cells, List.mapM_cons, hk c hc, hk b hb]
  rw [hl]
  rfl
end Go.Proofs.Ytbnnblfgpdfmpaa

/- MapL: Maps with parts as keys: the keys' law. -/
namespace Go.Proofs.Ytbnnblfgpdfmpaa
open Go Go.ChangeMaps Go.MapKept Go.WideShapes Go.WideAt
open Go.Maps (Keyed)

theorem map_laid : laidOutB Try.prog = true := by kernel_rfl
theorem part_row : (60 : TypeId) < Try.prog.types.size := of_decide_eq_true (by kernel_rfl)
theorem part_wide : (match Try.prog.underlying 60 with | some (.array _ _) | some (.struct _) => true | _ => false) = true := by kernel_rfl
set_option maxRecDepth 100000 in
theorem part_keyed : Keyed Try.prog 60 := Keyed.of_law (deep_law_laid map_laid (m := 2) (by omega) part_row (by kernel_rfl) part_wide)
end Go.Proofs.Ytbnnblfgpdfmpaa

/- MapI: Parts as keys: told apart. -/
namespace Go.Proofs.Ytbnnblfgpdfmpaa
open Go

theorem wf_16 (c : Nat) (h : c < 16) : (Lit.int .i64 (c : Int)).wf = true := by
  simp [Lit.wf, IntKind.min, IntKind.max, IntKind.bits, IntKind.signed]
  omega
theorem litP_inj {c b c' b' : Int} (hc : (Lit.int .i64 c).wf = true) (hb : (Lit.int .i64 b).wf = true) (hc' : (Lit.int .i64 c').wf = true) (hb' : (Lit.int .i64 b').wf = true) (h : litP c b = litP c' b') : c = c' ∧ b = b' := by
  have e := part_keyed.inj (part_key c b hc hb) (by rw [h]; exact part_key c' b' hc' hb')
  simp only [Value.agg.injEq, Array.mk.injEq, List.cons.injEq, Value.int.injEq, and_true, true_and] at e
  exact e
theorem litP_ne {p q : Nat × Nat} (hp1 : p.1 < 16) (hp2 : p.2 < 16) (hq1 : q.1 < 16) (hq2 : q.2 < 16) (h : p ≠ q) : litP (p.1 : Int) (p.2 : Int) ≠ litP (q.1 : Int) (q.2 : Int) := fun e => by
  obtain ⟨e1, e2⟩ := litP_inj (wf_16 _ hp1) (wf_16 _ hp2) (wf_16 _ hq1) (wf_16 _ hq2) e
  exact h (Prod.ext (by omega) (by omega))
/-- what a map from parts says, of parts below 16 -/
def MapIs {H : Type} (D : DataW H) (f : Nat × Nat → Bool) : Prop := Maps.IsMap D ∧ ∀ p : Nat × Nat, p.1 < 16 → p.2 < 16 → D.atKey (litP (p.1 : Int) (p.2 : Int)) (.lit (.bool false)) = .lit (.bool (f p))
theorem litP_key (c b : Int) : WideAt.IsKeyLit (litP c b) := by unfold litP; trivial
theorem MapIs.put {H : Type} {D : DataW H} {f : Nat × Nat → Bool} (h : MapIs D f) {q : Nat × Nat} (hq1 : q.1 < 16) (hq2 : q.2 < 16) (r : Bool) :
    MapIs (D.put (litP (q.1 : Int) (q.2 : Int)) (.lit (.bool r))) (fun p => if p = q then r else f p) := by
  refine ⟨h.1.put _ _, fun p hp1 hp2 => ?_⟩
  show _ = DataW.lit (Lit.bool (if p = q then r else f p))
  by_cases e : p = q
  · subst e
    rw [Maps.atKey_put_same h.1 (litP_key _ _), if_pos rfl]
  · rw [Maps.atKey_put_other (litP_ne hp1 hp2 hq1 hq2 e), if_neg e]
    exact h.2 p hp1 hp2
theorem MapIs.del {H : Type} {D : DataW H} {f : Nat × Nat → Bool} (h : MapIs D f) {q : Nat × Nat} (hq1 : q.1 < 16) (hq2 : q.2 < 16) :
    MapIs (D.del (litP (q.1 : Int) (q.2 : Int))) (fun p => if p = q then false else f p) := by
  refine ⟨h.1.del _, fun p hp1 hp2 => ?_⟩
  show _ = DataW.lit (Lit.bool (if p = q then false else f p))
  by_cases e : p = q
  · subst e
    rw [Maps.atKey_del_same, if_pos rfl]
  · rw [Maps.atKey_del_other (litP_ne hp1 hp2 hq1 hq2 e), if_neg e]
    exact h.2 p hp1 hp2
theorem MapIs.empty {H : Type} : MapIs (.map [] : DataW H) (fun _ => false) := ⟨Maps.isMap_empty, fun _ _ _ => rfl⟩
end Go.Proofs.Ytbnnblfgpdfmpaa

/- MapV: A key of a map from parts is a part. -/
namespace Go.Proofs.Ytbnnblfgpdfmpaa
open Go

set_option maxRecDepth 20000 in
theorem int_lits_inv {d : Nat} {x : Value} {l : List Lit} (h : Try.prog.keyLits (d + 1) 3 [x] = some l) : ∃ n : Int, x = .int .i64 n ∧ (Lit.int .i64 n).wf = true ∧ l = [.int .i64 n] := by
  unfold Program.keyLits at h
  rw [Try.underlying3] at h
  cases x with
  | int q n =>
    simp only at h
    split at h
    · rename_i hc
      obtain ⟨rfl, hw⟩ := hc
      cases h
      exact ⟨n, rfl, hw, rfl⟩
    · cases h
  | _ => simp at h
set_option maxRecDepth 20000 in
theorem part_key_inv {key : Value} {kl : Lit} (h : keyOf Try.prog 60 key = some kl) : ∃ c b : Int, key = .agg #[.int .i64 c, .int .i64 b] ∧ (Lit.int .i64 c).wf = true ∧ (Lit.int .i64 b).wf = true ∧ kl = litP c b := by
  unfold keyOf at h
  rw [Try.underlying60] at h
  simp only [part_keyType, Bool.true_and] at h
  by_cases hf : key.formed Try.prog 60 = true
  · rw [if_pos hf] at h
    have hs : ∃ x y, key = .agg #[x, y] := by
      cases key <;> simp [Value.formed, Try.underlying60, part_cells] at hf
      rename_i cs
      obtain ⟨l⟩ := cs
      match l, hf with
      | [x, y], _ => exact ⟨x, y, rfl⟩
    obtain ⟨x, y, rfl⟩ := hs
    have h0 : 0 < Try.prog.types.size := of_decide_eq_true (by kernel_rfl)
    obtain ⟨d, hd⟩ : ∃ d, Try.prog.types.size = d + 1 := ⟨Try.prog.types.size - 1, by omega⟩
    have e : (Value.agg #[x, y]).cells.toList = [x, y] := rfl
    rw [hd, e] at h
    unfold Program.keyLits at h
    rw [Try.underlying60] at h
    cases hx : Try.prog.keyLits (d + 1) 3 [x] with
    | none => simp [part_cells, int_cells, List.mapM_cons, hx] at h
    | some l1 =>
      cases hy : Try.prog.keyLits (d + 1) 3 [y] with
      | none => simp [part_cells, int_cells, List.mapM_cons, hx, hy] at h
      | some l2 =>
        simp [part_cells, int_cells, List.mapM_cons, hx, hy] at h
        obtain ⟨c, rfl, wc, rfl⟩ := int_lits_inv hx
        obtain ⟨b, rfl, wb, rfl⟩ := int_lits_inv hy
        exact ⟨c, b, rfl, wc, wb, h.symm⟩
  · rw [if_neg hf] at h
    cases h
end Go.Proofs.Ytbnnblfgpdfmpaa

/- CrD: dropGreater: of a map from parts, those that have all answers of a part, and more, are deleted. -/
namespace Go.Proofs.Ytbnnblfgpdfmpaa
open Go.RowKit Go.Joins Go.ChangeMaps Go.MapKept Go.WideShapes
open Go.Maps (Keyed)

/-- whether q has all answers of p, and more -/
def gtP (p q : Nat × Nat) : Bool := subP p q && q != p
/-- every key of a map is a part below 16 -/
def KeysIn (D : DataW Unit) : Prop := ∀ kl, Maps.has D kl = true → ∃ q : Nat × Nat, q.1 < 16 ∧ q.2 < 16 ∧ kl = litP (q.1 : Int) (q.2 : Int)
theorem KeysIn.empty : KeysIn (.map []) := fun kl h => by simp [Maps.has] at h
theorem KeysIn.put {D : DataW Unit} (h : KeysIn D) {q : Nat × Nat} (hq1 : q.1 < 16) (hq2 : q.2 < 16) (d : DataW Unit) : KeysIn (D.put (litP (q.1 : Int) (q.2 : Int)) d) := fun kl hk => by
  by_cases e : kl = litP (q.1 : Int) (q.2 : Int)
  · exact ⟨q, hq1, hq2, e⟩
  · rw [Maps.has_put_other e] at hk
    exact h kl hk
theorem KeysIn.del {D : DataW Unit} (h : KeysIn D) (l : Lit) : KeysIn (D.del l) := fun kl hk => by
  by_cases e : kl = l
  · rw [e, Maps.has_del_same] at hk
    cases hk
  · rw [Maps.has_del_other e] at hk
    exact h kl hk
/-- the map while its keys are gone through: f but for those that have had their turn and are greater -/
def DG (f : Nat × Nat → Bool) (p : Nat × Nat) (left : Lit → Bool) (D : DataW Unit) : Prop :=
  MapIs D (fun q => f q && !(gtP p q && !left (litP (q.1 : Int) (q.2 : Int)))) ∧ KeysIn D
theorem MapIs.congr {D : DataW Unit} {f g : Nat × Nat → Bool} (h : MapIs D f) (e : ∀ q : Nat × Nat, q.1 < 16 → q.2 < 16 → f q = g q) : MapIs D g :=
  ⟨h.1, fun q h1 h2 => by rw [← e q h1 h2]; exact h.2 q h1 h2⟩
theorem DG.start {D : DataW Unit} {f : Nat × Nat → Bool} {p : Nat × Nat} (h : MapIs D f) (hk : KeysIn D) : DG f p (Maps.has D) D := by
  refine ⟨h.congr (fun q h1 h2 => ?_), hk⟩
  cases hf : f q
  · rfl
  · cases hh : Maps.has D (litP (q.1 : Int) (q.2 : Int))
    · have e := h.2 q h1 h2
      rw [Maps.atKey_of_not_has hh, hf] at e
      cases e
    · simp
theorem litP_same {q q' : Nat × Nat} (h1 : q.1 < 16) (h2 : q.2 < 16) (h1' : q'.1 < 16) (h2' : q'.2 < 16) : (litP (q.1 : Int) (q.2 : Int)).sameKey (litP (q'.1 : Int) (q'.2 : Int)) = decide (q = q') := by
  by_cases e : q = q'
  · rw [e, WideAt.sameKey_self (litP_key _ _)]; simp
  · rw [Maps.sameKey_ne (litP_ne h1 h2 h1' h2' e), decide_eq_false e]
theorem DG.stay {D : DataW Unit} {f : Nat × Nat → Bool} {p q : Nat × Nat} {left : Lit → Bool} (h : DG f p left D) (h1 : q.1 < 16) (h2 : q.2 < 16) (hg : gtP p q = false) : DG f p (fun z => left z && !z.sameKey (litP (q.1 : Int) (q.2 : Int))) D := by
  refine ⟨h.1.congr (fun x hx1 hx2 => ?_), h.2⟩
  show _ = (f x && !(gtP p x && !(left (litP (x.1 : Int) (x.2 : Int)) && !(litP (x.1 : Int) (x.2 : Int)).sameKey (litP (q.1 : Int) (q.2 : Int)))))
  rw [litP_same hx1 hx2 h1 h2]
  by_cases e : x = q
  · rw [e, hg]; simp
  · rw [decide_eq_false e]; simp
theorem DG.struck {D : DataW Unit} {f : Nat × Nat → Bool} {p q : Nat × Nat} {left : Lit → Bool} (h : DG f p left D) (h1 : q.1 < 16) (h2 : q.2 < 16) (hg : gtP p q = true) : DG f p (fun z => left z && !z.sameKey (litP (q.1 : Int) (q.2 : Int))) (D.del (litP (q.1 : Int) (q.2 : Int))) := by
  refine ⟨(h.1.del h1 h2).congr (fun x hx1 hx2 => ?_), h.2.del _⟩
  show _ = (f x && !(gtP p x && !(left (litP (x.1 : Int) (x.2 : Int)) && !(litP (x.1 : Int) (x.2 : Int)).sameKey (litP (q.1 : Int) (q.2 : Int)))))
  rw [litP_same hx1 hx2 h1 h2]
  by_cases e : x = q
  · rw [if_pos e, e, hg]; simp
  · rw [if_neg e, decide_eq_false e]; simp
theorem DG.done {D : DataW Unit} {f : Nat × Nat → Bool} {p : Nat × Nat} {left : Lit → Bool} (h : DG f p left D) (hl : ∀ kl, left kl = false) : MapIs D (fun q => f q && !gtP p q) ∧ KeysIn D :=
  ⟨h.1.congr (fun q _ _ => by rw [hl]; simp), h.2⟩
theorem part_keyV (key : Value) (kl : Lit) (h : keyOf Try.prog 60 key = some kl) : ∃ x : Int × Int, key = .agg #[.int .i64 x.1, .int .i64 x.2] := by
  obtain ⟨c, b, rfl, _⟩ := part_key_inv h
  exact ⟨(c, b), rfl⟩
theorem bool_elemV (v : Value) (y : DataW Unit × List MemPlace) (h : plainElem Try.prog 4 v = some y) : ∃ c : Bool, v = .bool c := by
  obtain ⟨x, rfl, _⟩ := plainElem_bool_inv Try.underlying4 h
  exact ⟨x, rfl⟩
/-- the key that comes is a part below 16 -/
theorem key_nat {D : DataW Unit} (hk : KeysIn D) {x : Int × Int} {kl : Lit} {d : DataW Unit} (h : keyOf Try.prog 60 (.agg #[.int .i64 x.1, .int .i64 x.2]) = some kl) (hat : ∀ zd, D.atKey kl zd = d) :
    ∃ q : Nat × Nat, x = ((q.1 : Int), (q.2 : Int)) ∧ q.1 < 16 ∧ q.2 < 16 ∧ kl = litP (q.1 : Int) (q.2 : Int) := by
  obtain ⟨q, h1, h2, rfl⟩ := hk kl (Maps.has_true_of_atKey hat)
  obtain ⟨c, b, e, wc, wb, ek⟩ := part_key_inv h
  obtain ⟨e1, e2⟩ := litP_inj (wf_16 _ h1) (wf_16 _ h2) wc wb ek
  simp only [Value.agg.injEq, Array.mk.injEq, List.cons.injEq, Value.int.injEq, and_true, true_and] at e
  exact ⟨q, Prod.ext (by rw [e.1, e1]) (by rw [e.2, e2]), h1, h2, rfl⟩
theorem hasPart_was (x c b : Int) (w : World) (r : Bool) (hx : 0 ≤ x ∧ x ≤ 15) (hc : 0 ≤ c ∧ c ≤ 15) (hb : 0 ≤ b) (hr : hpB x c b = r) :
    Calls Try.prog 72 #[.int .i64 x, .agg #[.int .i64 c, .int .i64 b]] w fun e w' => e = .returned (.bool r) ∧ Below w.heap.size w w' := by
  subst hr
  exact hasPart_any x c b w hx hc hb
/-- the step of a range over a map from parts below 16 -/
theorem next_part {w : World} {ops : Array Oper} {rest : List Oper} {o : Oper} {a : Act} {Q : Exit → Act → World → Prop} (hg : o.guard = none) (it : Operand) (hop : o.op = Op.next it false) (b r n : Nat) (D : DataW Unit) (left : Lit → Bool) (cnt : Nat)
    (hit : a.eval it = .pointer (some ⟨r, 0, none⟩)) (h : w.ranges Try.prog 60 (plainElem Try.prog 4) b r n D left cnt) (hk : KeysIn D)
    (hDone : (∀ kl, left kl = false) → wpList Try.prog ops Q rest (a.put o.dst (.tuple #[.bool false])) w)
    (hMore : ∀ (q1 q2 : Nat) (v : Value) (w' : World) (cnt' : Nat), q1 < 16 → q2 < 16 → w'.ranges Try.prog 60 (plainElem Try.prog 4) b r n D (fun z => left z && !z.sameKey (litP (q1 : Int) (q2 : Int))) cnt' → cnt' < cnt →
      w.grownBy w' (some r) → (Instr.entry (.pointer (some ⟨r, 0, none⟩))).run Try.prog w' = .ok (.tuple #[.agg #[.int .i64 q1, .int .i64 q2], v]) w' → wpList Try.prog ops Q rest (a.put o.dst (.tuple #[.bool true, .agg #[.int .i64 q1, .int .i64 q2], v])) w') :
    wpList Try.prog ops Q (o :: rest) a w := by
  refine wpList_next_ranges w hg it hop 60 part_keyed (plainElem Try.prog 4) (fun x : Int × Int => Value.agg #[.int .i64 x.1, .int .i64 x.2]) Value.bool part_keyV bool_elemV b r n D left cnt hit h (fun _ hl => hDone hl) ?_
  intro x c kl y w' cnt' hkey hlk hv hat hrg hlt hgr hsz hen
  obtain ⟨q, rfl, h1, h2, rfl⟩ := key_nat hk hkey hat
  exact hMore q.1 q.2 (.bool c) w' cnt' h1 h2 hrg hlt hgr hen
/-- What dropGreater leaves. -/
def DropPost (b n : Nat) (f : Nat × Nat → Bool) (p : Nat × Nat) (w : World) (e : Ending) (w' : World) : Prop :=
  e = .returned (.tuple #[]) ∧ (∃ D' : DataW Unit, w'.ownsMap Try.prog 60 (plainElem Try.prog 4) b n D' ∧ MapIs D' (fun q => f q && !gtP p q) ∧ KeysIn D') ∧ w.grownBy w' (some b)
theorem gcell {w w' : World} {row : Option Nat} (h : w.grownBy w' row) {a : Addr} (hb : a.block < w.heap.size) (hne : some a.block ≠ row) : w'.cell? a = w.cell? a := by
  have e := h.block a.block hb hne
  unfold World.cell?
  rw [e]
theorem PBox.grown {w w' : World} {row : Option Nat} {g : Nat} {c b : Int} (h : PBox w g c b) (hg : w.grownBy w' row) (hne : some g ≠ row) : PBox w' g c b :=
  ⟨Nat.lt_of_lt_of_le h.1 hg.size, (gcell hg (a := ⟨g, 0, none⟩) h.1 hne).trans h.2.1, (gcell hg (a := ⟨g, 1, none⟩) h.1 hne).trans h.2.2⟩
theorem grown_of {w w' : World} (hb : Below w.heap.size w w') : w.grownBy w' none := ⟨hb.os, hb.tape, hb.output, hb.size, fun k hk _ => hb.block k hk⟩

set_option maxHeartbeats 2000000 in
set_option maxRecDepth 100000 in
theorem dropGreater_any (b n : Nat) (D : DataW Unit) (f : Nat × Nat → Bool) (pc pb : Nat) (w : World) (hp1 : pc < 16) (hp2 : pb < 16) (hown : w.ownsMap Try.prog 60 (plainElem Try.prog 4) b n D) (hm : MapIs D f) (hk : KeysIn D) :
    Calls Try.prog 55 #[.map (some b), .agg #[.int .i64 pc, .int .i64 pb]] w (DropPost b n f (pc, pb) w) := by
  have hown1 := hown.alloc (.cells #[.int .i64 pc, .int .i64 pb] 60)
  have px := PBox.new w (pc : Int) (pb : Int) 60
  have HB1 := hide (bel1 w (.cells #[.int .i64 pc, .int .i64 pb] 60))
  have hbl := hown.lt
  clear hown
  go_enter Try.func55, Try.ntmps55
  go_wp2_with (first
    | (at_range; refine wpList_range_own _ rfl _ 58 rfl 60 4 part_keyed Try.underlying58 _ b n _ rfl hown1 ?_; intro w0 hrg0 hg0 hs0)
    | go_in)
  go_frame
  simp only [World.size_alloc] at hrg0 ⊢
  have P0 := px.grown hg0 (by simp)
  have HG0 := hide hg0
  have HS0 := hide hs0
  clear px hg0 hs0 hown1
  go_loopw [4] (fun _ wr => ∃ (left : Lit → Bool) (cnt : Nat) (D' : DataW Unit), wr.ranges Try.prog 60 (plainElem Try.prog 4) b (w.heap.size + 1) n D' left cnt ∧ DG f (pc, pb) left D' ∧ w.grownBy wr (some b) ∧ PBox wr w.heap.size (pc : Int) (pb : Int))
    (fun _ wr => wr.rangeLeft b (w.heap.size + 1))
  case atStart => exact ⟨_, _, _, hrg0, DG.start hm hk, gtrans (grown_of HB1.out) HG0.out |>.but _, P0⟩
  case round =>
    obtain ⟨left, cnt, D', hrg, hd, hg, hp⟩ := hrel
    clear P0 hrg0
    go_wp2_with (first
      | (at_next; refine next_part rfl _ rfl b (w.heap.size + 1) n _ _ _ rfl hrg hd.2 ?_ ?_)
      | go_in)
    · intro hl0
      go_wp2
      go_end0
      exact ⟨rfl, ⟨D', hrg.owns, hd.done hl0⟩, hg⟩
    · intro q1 q2 v w1 cnt1 hq1 hq2 hrg1 hlt hg1 hen
      have hg2 := hg.andThen hg1 (fun j hj => by cases hj; exact Or.inl (Nat.le_succ _))
      have P1 := hp.grown hg1 (by simp)
      have qx := PBox.new w1 (q1 : Int) (q2 : Int) 60
      have P2 := P1.below (bel1 w1 (.cells #[.int .i64 q1, .int .i64 q2] 60))
      have hg3 := gtrans hg2 ((grown_of (bel1 w1 (.cells #[.int .i64 q1, .int .i64 q2] 60))).but (some b))
      have hr3 := hrg1.alloc (.cells #[.int .i64 q1, .int .i64 q2] 60)
      have HD := hide hd
      have HG3 := hide hg3
      have HR3 := hide hr3
      have HRG := hide hrg
      have HLT := hide hlt
      have HPB := hide P2
      obtain ⟨_, p0, p1⟩ := P2
      obtain ⟨_, u0, u1⟩ := qx
      have hwf1 := hide (wf_16 q1 hq1)
      have hwf2 := hide (wf_16 q2 hq2)
      clear hrg1 hg1 hrg hd hg hp hg2 hlt P1 hg3 hr3
      by_cases hq : q1 = pc ∧ q2 = pb
      · obtain ⟨rfl, rfl⟩ := hq
        have HQ : Hid (gtP (q1, q2) (q1, q2) = false) := by unfold Hid gtP; simp
        go_wp2
        go_roundw
        case rel => exact ⟨(fun z => left z && !z.sameKey (litP (q1 : Int) (q2 : Int))), cnt1, D', HR3.out, HD.out.stay (q := (q1, q2)) hq1 hq2 HQ.out, HG3.out, HPB.out⟩
        case measure => rw [HR3.out.left_eq, HRG.out.left_eq]; exact HLT.out
      · have hne : ((q1, q2) != (pc, pb)) = true := by
          rw [bne_iff_ne]
          intro e
          exact hq (by simpa using e)
        have hsub := andNot_zero (pc : Int) q1 (wf_16 pc hp1) hq1
        rw [Int.toNat_natCast] at hsub
        have hh := hp_nat (q2 : Int) pc pb
        rw [Int.toNat_natCast] at hh
        by_cases hs : pc &&& q1 = pc
        · have hA : (bits .andNot .i64 (pc : Int) (q1 : Int) == 0) = true := by rw [beq_iff_eq]; exact hsub.2 ⟨by omega, hs⟩
          cases hv : (q2 &&& pc == pb) with
          | false =>
            have HQ : Hid (gtP (pc, pb) (q1, q2) = false) := by unfold Hid gtP subP; simp only [hv]; simp
            rw [hv] at hh
            have HH := hide hh
            clear hv hh hs hsub hne
            have hpr : Hid ((0 ≤ (q2 : Int) ∧ (q2 : Int) ≤ 15) ∧ (0 ≤ (pc : Int) ∧ (pc : Int) ≤ 15) ∧ 0 ≤ (pb : Int)) := ⟨⟨by omega, by omega⟩, ⟨by omega, by omega⟩, by omega⟩
            by_cases e1 : q1 = pc
            · have e2 : ¬ ((q2 : Int) = (pb : Int)) := fun e => hq ⟨e1, by omega⟩
              subst e1
              clear hq
              go_wp2_with fail
              refine (hasPart_was _ _ _ _ false hpr.out.1 hpr.out.2.1 hpr.out.2.2 HH.out).mono ?_
              rintro e w4 ⟨rfl, b4⟩
              have HG4 := hide (gtrans HG3.out ((grown_of b4).but (some b)))
              have HR4 := hide (HR3.out.kept (grown_of b4) (by simp) (by simp))
              have HP4 := hide (HPB.out.below b4)
              go_wp2
              go_roundw
              case rel => exact ⟨(fun z => left z && !z.sameKey (litP (q1 : Int) (q2 : Int))), cnt1, D', HR4.out, HD.out.stay (q := (q1, q2)) hq1 hq2 HQ.out, HG4.out, HP4.out⟩
              case measure => rw [HR4.out.left_eq, HRG.out.left_eq]; exact HLT.out
            · have e2 : ¬ ((q1 : Int) = (pc : Int)) := fun e => e1 (by omega)
              clear hq e1
              go_wp2_with fail
              refine (hasPart_was _ _ _ _ false hpr.out.1 hpr.out.2.1 hpr.out.2.2 HH.out).mono ?_
              rintro e w4 ⟨rfl, b4⟩
              have HG4 := hide (gtrans HG3.out ((grown_of b4).but (some b)))
              have HR4 := hide (HR3.out.kept (grown_of b4) (by simp) (by simp))
              have HP4 := hide (HPB.out.below b4)
              go_wp2
              go_roundw
              case rel => exact ⟨(fun z => left z && !z.sameKey (litP (q1 : Int) (q2 : Int))), cnt1, D', HR4.out, HD.out.stay (q := (q1, q2)) hq1 hq2 HQ.out, HG4.out, HP4.out⟩
              case measure => rw [HR4.out.left_eq, HRG.out.left_eq]; exact HLT.out
          | true =>
            have HQ : Hid (gtP (pc, pb) (q1, q2) = true) := by unfold Hid gtP subP; simp only [hv, hne, hs]; simp
            rw [hv] at hh
            have HH := hide hh
            clear hv hh hs hsub hne
            have hpr : Hid ((0 ≤ (q2 : Int) ∧ (q2 : Int) ≤ 15) ∧ (0 ≤ (pc : Int) ∧ (pc : Int) ≤ 15) ∧ 0 ≤ (pb : Int)) := ⟨⟨by omega, by omega⟩, ⟨by omega, by omega⟩, by omega⟩
            have HU0 := hide u0
            have HU1 := hide u1
            by_cases e1 : q1 = pc
            · have e2 : ¬ ((q2 : Int) = (pb : Int)) := fun e => hq ⟨e1, by omega⟩
              subst e1
              clear hq
              go_wp2_with fail
              refine (hasPart_was _ _ _ _ true hpr.out.1 hpr.out.2.1 hpr.out.2.2 HH.out).mono ?_
              rintro e w4 ⟨rfl, b4⟩
              have HG4 := hide (gtrans HG3.out ((grown_of b4).but (some b)))
              have hr4 := HR3.out.kept (grown_of b4) (by simp) (by simp)
              have HP4 := hide (HPB.out.below b4)
              have v0 := (b4.cell (p := ⟨w1.heap.size, 0, none⟩) (by simp)).trans HU0.out
              have v1 := (b4.cell (p := ⟨w1.heap.size, 1, none⟩) (by simp)).trans HU1.out
              clear u0 u1 p0 p1 b4
              go_wp2_with (first
                | (at_delete; refine wpList_delete_ranges _ rfl _ _ 58 60 rfl 4 part_keyed Try.underlying58 _ b (w.heap.size + 1) n _ _ _ rfl hr4 _ _ rfl (part_key _ _ hwf1.out hwf2.out) ?_; intro w5 cnt5 hrg5 hle hturn; go_frame)
                | go_in)
              rw [Maps.strike_twice] at hrg5
              have HG5 := hide (HG4.out.andThen hturn.grown (fun j hj => by cases hj; exact Or.inr rfl))
              have HP5 := hide (HP4.out.grown hturn.grown (by simp; omega))
              go_roundw
              case rel => exact ⟨(fun z => left z && !z.sameKey (litP (q1 : Int) (q2 : Int))), cnt5, _, hrg5, HD.out.struck (q := (q1, q2)) hq1 hq2 HQ.out, HG5.out, HP5.out⟩
              case measure => rw [hrg5.left_eq, HRG.out.left_eq]; have := HLT.out; omega
            · have e2 : ¬ ((q1 : Int) = (pc : Int)) := fun e => e1 (by omega)
              clear hq e1
              go_wp2_with fail
              refine (hasPart_was _ _ _ _ true hpr.out.1 hpr.out.2.1 hpr.out.2.2 HH.out).mono ?_
              rintro e w4 ⟨rfl, b4⟩
              have HG4 := hide (gtrans HG3.out ((grown_of b4).but (some b)))
              have hr4 := HR3.out.kept (grown_of b4) (by simp) (by simp)
              have HP4 := hide (HPB.out.below b4)
              have v0 := (b4.cell (p := ⟨w1.heap.size, 0, none⟩) (by simp)).trans HU0.out
              have v1 := (b4.cell (p := ⟨w1.heap.size, 1, none⟩) (by simp)).trans HU1.out
              clear u0 u1 p0 p1 b4
              go_wp2_with (first
                | (at_delete; refine wpList_delete_ranges _ rfl _ _ 58 60 rfl 4 part_keyed Try.underlying58 _ b (w.heap.size + 1) n _ _ _ rfl hr4 _ _ rfl (part_key _ _ hwf1.out hwf2.out) ?_; intro w5 cnt5 hrg5 hle hturn; go_frame)
                | go_in)
              rw [Maps.strike_twice] at hrg5
              have HG5 := hide (HG4.out.andThen hturn.grown (fun j hj => by cases hj; exact Or.inr rfl))
              have HP5 := hide (HP4.out.grown hturn.grown (by simp; omega))
              go_roundw
              case rel => exact ⟨(fun z => left z && !z.sameKey (litP (q1 : Int) (q2 : Int))), cnt5, _, hrg5, HD.out.struck (q := (q1, q2)) hq1 hq2 HQ.out, HG5.out, HP5.out⟩
              case measure => rw [hrg5.left_eq, HRG.out.left_eq]; have := HLT.out; omega
        · have hA : (bits .andNot .i64 (pc : Int) (q1 : Int) == 0) = false := by
            rw [beq_eq_false_iff_ne]
            intro e
            exact hs (hsub.1 e).2
          have HQ : Hid (gtP (pc, pb) (q1, q2) = false) := by
            unfold Hid gtP subP
            rw [show (pc &&& q1 == pc) = false from by simpa using hs]
            rfl
          have e2 : ¬ ((q1 : Int) = (pc : Int)) := fun e => hs (by
            obtain rfl : q1 = pc := by omega
            exact Nat.and_self q1)
          clear hs hsub hne hq hh
          go_wp2
          go_roundw
          case rel => exact ⟨(fun z => left z && !z.sameKey (litP (q1 : Int) (q2 : Int))), cnt1, D', HR3.out, HD.out.stay (q := (q1, q2)) hq1 hq2 HQ.out, HG3.out, HPB.out⟩
          case measure => rw [HR3.out.left_eq, HRG.out.left_eq]; exact HLT.out
end Go.Proofs.Ytbnnblfgpdfmpaa

/- CrO: The program's list of all parts, in order. -/
namespace Go.Proofs.Ytbnnblfgpdfmpaa
open Go.RowKit Go.Joins

def or0 (n s : Nat) : List (Nat × Nat) := (List.range s).flatMap (ordS n)
def or1 (n s c : Nat) : List (Nat × Nat) := or0 n s ++ (List.range c).flatMap (ordC s)
def or2 (n s c b : Nat) : List (Nat × Nat) := or1 n s c ++ ((List.range b).filter fun b => b &&& c == b).map fun b => (c, b)
theorem or1_zero (n s : Nat) : or1 n s 0 = or0 n s := by simp [or1]
theorem or2_zero (n s c : Nat) : or2 n s c 0 = or1 n s c := by simp [or2]
theorem or1_end (n s : Nat) : or1 n s (2 ^ n) = or0 n (s + 1) := by
  unfold or1 or0
  rw [List.range_succ, List.flatMap_append]
  simp [ordS]
theorem or0_end (n : Nat) : or0 n (n + 1) = ordL n := rfl
theorem or2_end {n s c : Nat} (h : wt c = s) : or2 n s c (c + 1) = or1 n s (c + 1) := by
  unfold or2 or1
  rw [List.range_succ (n := c), List.flatMap_append, List.append_assoc]
  simp only [List.flatMap_cons, List.flatMap_nil, List.append_nil, ordC, if_pos h, List.range_succ (n := c)]
theorem or1_skip {n s c : Nat} (h : wt c ≠ s) : or1 n s (c + 1) = or1 n s c := by
  unfold or1
  rw [List.range_succ (n := c), List.flatMap_append]
  simp [ordC, if_neg h]
theorem or2_yes {n s c b : Nat} (h : (b &&& c == b) = true) : or2 n s c (b + 1) = or2 n s c b ++ [(c, b)] := by
  unfold or2
  rw [List.range_succ, List.filter_append, List.map_append, List.append_assoc]
  congr 2
  simp only [List.filter_cons, h, if_true, List.filter_nil, List.map_cons, List.map_nil]
theorem or2_off {n s c b : Nat} (h : (b &&& c == b) = false) : or2 n s c (b + 1) = or2 n s c b := by
  unfold or2
  rw [List.range_succ, List.filter_append, List.map_append]
  simp [h]
/-- the list under way -/
def PO (w : World) (v : Value) (l : List (Nat × Nat)) (K : Nat) (wq : World) : Prop := OwnsP wq w.heap.size v (ofP l) ∧ l.length ≤ K ∧ Below w.heap.size w wq
theorem PO.to {w : World} {v : Value} {l l' : List (Nat × Nat)} {K K' : Nat} {wq : World} (h : PO w v l K wq) (e : l' = l) (hk : K ≤ K') : PO w v l' K' wq := by
  subst e
  exact ⟨h.1, Nat.le_trans h.2.1 hk, h.2.2⟩
theorem PO.push {w : World} {v v' : Value} {l : List (Nat × Nat)} {K c b : Nat} {wq w5 : World} (h : PO w v l K wq) (o : Obj) (hg : (wq.alloc o).grownBy w5 v.ownBlock)
    (ho : w5.ownsRow w.heap.size 60 2 v' ((ofP l).length + 1) (pflat (ofP l) ++ [.int .i64 (c : Int), .int .i64 (b : Int)])) : PO w v' (l ++ [(c, b)]) (K + 1) w5 := by
  have hp' : wq.ownsRow w.heap.size 60 2 v (ofP l).length (pflat (ofP l)) := h.1
  have hge : ∀ k, v.ownBlock = some k → w.heap.size ≤ k := fun k hk => (World.ownsRow.lt hp' k hk).1
  have e : ofP (l ++ [(c, b)]) = ofP l ++ [((c : Int), (b : Int))] := by simp [ofP]
  have hB := bnext h.2.2 (bel1 wq o)
  exact ⟨by rw [e]; exact OwnsP.push ho, by rw [List.length_append]; have := h.2.1; simpa using this, bgrown hB hg hB.size hge⟩
theorem ones_was (x s : Nat) (w : World) (hx : x < 16) (h : wt x = s) : Calls Try.prog 68 #[.int .u64 x] w fun e w' => e = .returned (.int .i64 (s : Nat)) ∧ w = w' := by
  subst h
  exact onesCount_any x w hx
set_option maxHeartbeats 8000000 in
set_option maxRecDepth 100000 in
theorem partsInOrder_any (N : Nat) (w : World) (hn : 1 ≤ N ∧ N ≤ 4) :
    Calls Try.prog 53 #[.int .i64 (N : Int)] w fun e w' => ∃ v, e = .returned v ∧ OwnsP w' w.heap.size v (ofP (ordL N)) ∧ Below w.heap.size w w' := by
  obtain ⟨j0, hj0, hy0, hy1, hy2⟩ := info_parts info_part
  have p2 : 2 ^ N ≤ 16 := Nat.pow_le_pow_right (n := 2) (by omega) hn.2
  have e : ((2 : Int) ^ N) = ((2 ^ N : Nat) : Int) := by rw [Int.natCast_pow]; rfl
  obtain ⟨Q, hQ⟩ : ∃ Q, Q = 2 ^ N := ⟨_, rfl⟩
  rw [← hQ] at p2 e
  have hsh : wrap64 ((2 : Int) ^ N) = (Q : Int) := by
    rw [e]
    unfold wrap64
    omega
  have HQ := hide hQ
  have P0 : PO w (.slice none 0 0) [] 0 w := ⟨World.ownsRow_nil _ _ _ _, Nat.le_refl _, Below.refl _ _⟩
  clear hQ e
  go_enter Try.func53, Try.ntmps53
  go_wp2_with fail
  go_loopw [3, 9] (fun v i wq => ∃ s : Nat, s ≤ N + 1 ∧ i = .int .i64 s ∧ PO w v (or0 N s) (s * 256) wq) (fun _ i _ => N + 1 - (intOf i).toNat)
  case atStart => exact ⟨0, Nat.zero_le _, rfl, P0.to rfl (Nat.zero_le _)⟩
  case round =>
    clear P0
    obtain ⟨s, hs, rfl, hc⟩ := hrel
    obtain ⟨va, vc, rfl, _⟩ := hc.1.form
    by_cases hlt : (s : Int) < (N : Int) + 1
    · have HC := hide (hc.to (or1_zero N s) (Nat.le_refl _))
      clear hc
      go_wp2_with fail
      simp only [hsh]
      go_loopw [3, 14] (fun v i wq => ∃ c : Nat, c ≤ Q ∧ i = .int .i64 c ∧ PO w v (or1 N s c) (s * 256 + c * 16) wq) (fun _ i _ => Q - (intOf i).toNat)
      case atStart => exact ⟨0, Nat.zero_le _, rfl, HC.out⟩
      case round =>
        clear HC
        obtain ⟨c, hcq, rfl, hc⟩ := hrel
        obtain ⟨va, vc, rfl, _⟩ := hc.1.form
        by_cases hlc : c < Q
        · by_cases hw : wt c = s
          · have HC := hide (hc.to (or2_zero N s c) (Nat.le_refl _))
            have HW := hide hw
            have hss : ((s : Int) != (s : Int)) = false := by simp
            clear hc hw
            go_wp2_with (go_at_call 68; refine (ones_was c s _ (by omega) HW.out).mono ?_; rintro e w' ⟨rfl, rfl⟩)
            go_loopw [3, 24] (fun v i wq => ∃ b : Nat, b ≤ c + 1 ∧ i = .int .i64 b ∧ PO w v (or2 N s c b) (s * 256 + c * 16 + b) wq) (fun _ i _ => c + 1 - (intOf i).toNat)
            case atStart => exact ⟨0, Nat.zero_le _, rfl, HC.out⟩
            case round =>
              clear HC
              obtain ⟨b, hb, rfl, hc⟩ := hrel
              obtain ⟨va, vc, rfl, _⟩ := hc.1.form
              have HC := hide hc
              by_cases hbc : (b : Int) < (c : Int) + 1
              · have hz := andNot_zero (b : Int) c (by simp [Lit.wf, IntKind.min, IntKind.max, IntKind.bits, IntKind.signed]; omega) (by omega)
                rw [Int.toNat_natCast] at hz
                cases he : (b &&& c == b) with
                | true =>
                  have hand : (bits .andNot .i64 (b : Int) (c : Int) == 0) = true := by
                    rw [beq_iff_eq]
                    exact hz.2 ⟨by omega, by simpa using he⟩
                  have hop := hc.1
                  have hws := hc.2.2.size
                  have hl2 := hc.2.1
                  have hol : (ofP (or2 N s c b)).length ≤ s * 256 + c * 16 + b := by unfold ofP; rw [List.length_map]; exact hl2
                  have HE := hide he
                  clear hz he hc
                  go_wp2_with ((at_builtin; refine wpList_append_own _ rfl _ _ 37 rfl w.heap.size 60 j0 (.agg #[.int .i64 0, .int .i64 0]) 2 16 Try.underlying37 hj0 hy0 hy1 hy2 rfl (by decide) _ _ _ rfl (hop.alloc _) ⟨wr.heap.size, 0, none⟩ 1 1 [.int .i64 (c : Int), .int .i64 (b : Int)] rfl rfl (World.news_of_block (cs := #[.int .i64 (c : Int), .int .i64 (b : Int)]) (t := 60) (fr := (0, 0)) (heap_alloc_new wr _)) (by intro u hu; simp at hu; rcases hu with rfl | rfl <;> rfl) (by unfold maxLen; omega) (by omega) (by first | omega | (simp; omega)) ?_))
                  intro v' w6 hown' hgrow _
                  have V6 := HC.out.push (.cells #[.int .i64 (c : Int), .int .i64 (b : Int)] 60) hgrow hown'
                  rw [← or2_yes HE.out] at V6
                  obtain ⟨qa, qc, rfl, _⟩ := V6.1.form
                  have HV6 := hide V6
                  clear hop hown' hgrow V6
                  go_wp2
                  go_roundw
                  case rel => exact ⟨b + 1, by omega, by go_num, HV6.out⟩
                  case measure => simp only [intOf]; omega
                | false =>
                  have hand : (bits .andNot .i64 (b : Int) (c : Int) == 0) = false := by
                    rw [beq_eq_false_iff_ne]
                    intro h0
                    have := (hz.1 h0).2
                    rw [beq_eq_false_iff_ne] at he
                    exact he this
                  have HE := hide he
                  clear hz he hc
                  go_wp2
                  go_roundw
                  case rel => exact ⟨b + 1, by omega, by go_num, HC.out.to (or2_off HE.out) (by omega)⟩
                  case measure => simp only [intOf]; omega
              · obtain rfl : b = c + 1 := by omega
                clear hc
                go_wp2
                go_roundw
                case rel => exact ⟨c + 1, by omega, by go_num, HC.out.to (or2_end HW.out).symm (by omega)⟩
                case measure => simp only [intOf]; omega
          · have HC := hide (hc.to (or1_skip (n := N) hw) (Nat.le_refl _))
            obtain ⟨wc, hwc⟩ : ∃ wc, wt c = wc := ⟨_, rfl⟩
            have HWC := hide hwc
            have hss : ((wc : Int) != (s : Int)) = true := by rw [bne_iff_ne]; omega
            clear hc hw hwc
            go_wp2_with (go_at_call 68; refine (ones_was c wc _ (by omega) HWC.out).mono ?_; rintro e w' ⟨rfl, rfl⟩)
            go_roundw
            case rel => exact ⟨c + 1, by omega, by go_num, HC.out.to rfl (by omega)⟩
            case measure => simp only [intOf]; omega
        · obtain rfl : c = Q := by omega
          have HC := hide (hc.to (l' := or0 N (s + 1)) (K' := (s + 1) * 256) (by rw [HQ.out]; exact (or1_end N s).symm) (by omega))
          clear hc
          go_wp2
          go_roundw
          case rel => exact ⟨s + 1, by omega, by go_num, HC.out⟩
          case measure => simp only [intOf]; omega
    · obtain rfl : s = N + 1 := by omega
      have HC := hide hc
      clear hc
      go_wp2
      go_ret
      exact ⟨_, rfl, HC.out.1, HC.out.2.2⟩
end Go.Proofs.Ytbnnblfgpdfmpaa

/- PtS: The laws' helpers on slices of parts: equality, marks. -/
namespace Go.Proofs.Ytbnnblfgpdfmpaa
open Go.RowKit Go.Joins

theorem OwnsP.pints {w : World} {base n cap : Nat} {a : Option Addr} {ps : List (Int × Int)} (h : OwnsP w base (.slice a n cap) ps) : PInts w a ps := by
  obtain ⟨a', cap', e, hi⟩ := h.form
  simp only [Value.slice.injEq] at e
  obtain ⟨rfl, _, _⟩ := e
  exact hi
theorem pown_ge {w : World} {base : Nat} {v : Value} {ps : List (Int × Int)} (h : OwnsP w base v ps) : ∀ k, v.ownBlock = some k → base ≤ k ∧ k < w.heap.size := fun k hk => World.ownsRow.lt h k hk
theorem pown_kept {w w' : World} {base : Nat} {v : Value} {ps : List (Int × Int)} {row : Option Nat} (h : OwnsP w base v ps) (hg : w.grownBy w' row) (hne : ∀ k, row = some k → v.ownBlock ≠ some k) : OwnsP w' base v ps := by
  have h' : w.ownsRow base 60 2 v ps.length (pflat ps) := h
  refine World.ownsRow.kept h' hg ?_
  rcases hv : v.ownBlock with _ | g
  · exact .inl rfl
  · right
    intro e
    exact hne g e.symm hv
def pmarks (k : Int) (n : Nat) : List (Int × Int) := (List.range n).map fun (i : Nat) => (k + 2 * (i : Int), k + 2 * (i : Int) + 1)
theorem pmarks_length (k : Int) (n : Nat) : (pmarks k n).length = n := by simp [pmarks]
theorem pmarks_getD (k : Int) (n i : Nat) (h : i < n) : (pmarks k n).getD i (0, 0) = (k + 2 * (i : Int), k + 2 * (i : Int) + 1) := by
  simp [pmarks, List.getD_eq_getElem?_getD, h]
theorem parts_ext {xs ys : List (Int × Int)} (hl : xs.length = ys.length) (h : ∀ j, j < xs.length → xs.getD j (0, 0) = ys.getD j (0, 0)) : xs = ys := by
  refine List.ext_getElem hl fun i h1 h2 => ?_
  have := h i h1
  rwa [pgetD_lt h1, pgetD_lt h2] at this
theorem pflat_set : ∀ (ps : List (Int × Int)) (j : Nat) (c b : Int), j < ps.length → pflat (ps.set j (c, b)) = ((pflat ps).set (j * 2) (.int .i64 c)).set (j * 2 + 1) (.int .i64 b)
  | [], j, _, _, h => by simp at h
  | p :: ps, 0, c, b, _ => rfl
  | p :: ps, j + 1, c, b, h => by
    have ih := pflat_set ps j c b (by simpa using h)
    rw [List.set_cons_succ, pflat_cons, pflat_cons, ih, show (j + 1) * 2 = j * 2 + 1 + 1 from by omega]
    rfl

end Go.Proofs.Ytbnnblfgpdfmpaa

/- CrI: CriticalParts of the program. -/
namespace Go.Proofs.Ytbnnblfgpdfmpaa
open Go.RowKit Go.Joins Go.ChangeMaps Go.MapKept Go.WideShapes
open Go.Maps (Keyed)

/-- the call's own map of parts -/
def OM (b n : Nat) (f : Nat × Nat → Bool) (w : World) : Prop := ∃ D : DataW Unit, w.ownsMap Try.prog 60 (plainElem Try.prog 4) b n D ∧ MapIs D f ∧ KeysIn D
theorem OM.below {b n : Nat} {f : Nat × Nat → Bool} {w w' : World} (h : OM b n f w) (hb : Below w.heap.size w w') : OM b n f w' := by
  obtain ⟨D, h1, h2, h3⟩ := h
  exact ⟨D, h1.kept (grown_of hb) (by simp), h2, h3⟩
theorem OM.grown {b n : Nat} {f : Nat × Nat → Bool} {w w' : World} {row : Option Nat} (h : OM b n f w) (hg : w.grownBy w' row) (hne : some b ≠ row) : OM b n f w' := by
  obtain ⟨D, h1, h2, h3⟩ := h
  exact ⟨D, h1.kept hg hne, h2, h3⟩
theorem OM.congr {b n : Nat} {f g : Nat × Nat → Bool} {w : World} (h : OM b n f w) (e : ∀ q : Nat × Nat, q.1 < 16 → q.2 < 16 → f q = g q) : OM b n g w := by
  obtain ⟨D, h1, h2, h3⟩ := h
  exact ⟨D, h1, h2.congr e, h3⟩
theorem OM.lt {b n : Nat} {f : Nat × Nat → Bool} {w : World} (h : OM b n f w) : b < w.heap.size := by
  obtain ⟨D, h1, _⟩ := h
  exact h1.lt
theorem OM.made (w : World) : OM w.heap.size 0 (fun _ => false) (w.alloc (.map #[] 0)) := ⟨_, World.ownsMap_made w _ _ _, MapIs.empty, KeysIn.empty⟩
theorem zero_bool (w : World) : (zeroValue 4).run Try.prog w = .ok (.bool false) w := by kernel_rfl
theorem OM.look {b n : Nat} {f : Nat × Nat → Bool} {w : World} (h : OM b n f w) {c k : Nat} (hc : c < 16) (hk : k < 16) : (Instr.lookup 58 (.map (some b)) (.agg #[.int .i64 c, .int .i64 k]) false).run Try.prog w = .ok (.bool (f (c, k))) w := by
  obtain ⟨D, h1, h2, _⟩ := h
  obtain ⟨x, hx, hD⟩ := lookup_bool h1 part_keyed Try.underlying58 Try.underlying4 (zero_bool w) (part_key _ _ (wf_16 c hc) (wf_16 k hk))
  rw [hx]
  have e := h2.2 (c, k) hc hk
  rw [hD] at e
  have e2 : x = f (c, k) := by
    have e3 := DataW.lit.inj e
    exact Lit.bool.inj e3
  rw [e2]
theorem dropGreater_om (b n : Nat) (f : Nat × Nat → Bool) (pc pb : Nat) (w : World) (hp1 : pc < 16) (hp2 : pb < 16) (h : OM b n f w) :
    Calls Try.prog 55 #[.map (some b), .agg #[.int .i64 pc, .int .i64 pb]] w fun e w' => e = .returned (.tuple #[]) ∧ OM b n (fun q => f q && !gtP (pc, pb) q) w' ∧ w.grownBy w' (some b) := by
  obtain ⟨D, h1, h2, h3⟩ := h
  exact (dropGreater_any b n D f pc pb w hp1 hp2 h1 h2 h3).mono fun e w' ⟨he, hD, hg⟩ => ⟨he, hD, hg⟩
/-- what the map holds when the first k parts have been looked at -/
def seenB (n : Nat) (zs : List Int) (k : Nat) (q : Nat × Nat) : Bool := ((ordL n).take k).contains q && !opn zs q
theorem seen_zero (n : Nat) (zs : List Int) (q : Nat × Nat) : seenB n zs 0 q = false := by unfold seenB; simp
theorem seen_end (n : Nat) (zs : List Int) (q : Nat × Nat) : seenB n zs (ordL n).length q = stillB n zs 0 q := by rw [still_zero]; unfold seenB; rw [List.take_length]
theorem take_mem {n k : Nat} (hk : k < (ordL n).length) (q : Nat × Nat) : ((ordL n).take (k + 1)).contains q = (((ordL n).take k).contains q || decide (q = (ordL n)[k])) := by
  rw [Bool.eq_iff_iff, Bool.or_eq_true, decide_eq_true_iff, List.contains_iff_mem, List.contains_iff_mem, List.take_add_one, List.getElem?_eq_getElem hk, List.mem_append]
  simp only [Option.toList_some, List.mem_singleton]
theorem seen_open {n : Nat} {zs : List Int} {k : Nat} (hk : k < (ordL n).length) (h : opn zs (ordL n)[k] = true) (q : Nat × Nat) : seenB n zs (k + 1) q = seenB n zs k q := by
  unfold seenB
  rw [take_mem hk]
  by_cases e : q = (ordL n)[k]
  · rw [e, h, Bool.not_true, Bool.and_false, Bool.and_false]
  · rw [decide_eq_false e, Bool.or_false]
theorem seen_closed {n : Nat} {zs : List Int} {k : Nat} (hk : k < (ordL n).length) (h : opn zs (ordL n)[k] = false) (q : Nat × Nat) : (if q = (ordL n)[k] then true else seenB n zs k q) = seenB n zs (k + 1) q := by
  unfold seenB
  rw [take_mem hk]
  by_cases e : q = (ordL n)[k]
  · rw [if_pos e, e, h]; simp
  · rw [if_neg e, decide_eq_false e, Bool.or_false]
theorem still_step {n : Nat} {zs : List Int} {k : Nat} (hk : k < (ordL n).length) (h : crB n zs (ordL n)[k] = true) (q : Nat × Nat) : stillB n zs (k + 1) q = (stillB n zs k q && !gtP (ordL n)[k] q) := still_yes hk h
theorem ord_16 {n : Nat} (hn : n ≤ 4) {p : Nat × Nat} (hp : p ∈ ordL n) : p.1 < 16 ∧ p.2 < 16 := by
  have hf := ord_facts hn hp
  have p2 : 2 ^ n ≤ 16 := Nat.pow_le_pow_right (n := 2) (by omega) hn
  have hb : p.2 ≤ p.1 := by rw [← hf.2.1]; exact Nat.and_le_right
  exact ⟨by omega, by omega⟩
set_option maxRecDepth 100000 in
theorem ord_len : range5 (fun n => decide ((ordL n).length ≤ 81)) = true := by decide +kernel
theorem OM.put {b n : Nat} {f : Nat × Nat → Bool} {D : DataW Unit} {w : World} {c k : Nat} (h1 : w.ownsMap Try.prog 60 (plainElem Try.prog 4) b n (D.put (litP (c : Int) (k : Int)) (.lit (.bool true)))) (h2 : MapIs D f) (h3 : KeysIn D) (hc : c < 16) (hk : k < 16) :
    OM b n (fun q => if q = (c, k) then true else f q) w := ⟨_, h1, h2.put (q := (c, k)) hc hk true, h3.put (q := (c, k)) hc hk _⟩
theorem ofP_at {l : List (Nat × Nat)} {k : Nat} (hk : k < l.length) : (ofP l).getD k (0, 0) = ((l[k].1 : Int), (l[k].2 : Int)) := by
  unfold ofP
  rw [List.getD_eq_getElem?_getD, List.getElem?_map, List.getElem?_eq_getElem hk]
  rfl
theorem ofP_len (l : List (Nat × Nat)) : (ofP l).length = l.length := List.length_map _
/-- the critical parts among the first k -/
def tookP (n : Nat) (zs : List Int) (k : Nat) : List (Nat × Nat) := ((ordL n).take k).filter (crB n zs)
theorem took_yes {n : Nat} {zs : List Int} {k : Nat} (hk : k < (ordL n).length) (h : crB n zs (ordL n)[k] = true) : tookP n zs (k + 1) = tookP n zs k ++ [(ordL n)[k]] := by
  unfold tookP
  rw [filter_takeP n zs hk, if_pos h]
theorem took_no {n : Nat} {zs : List Int} {k : Nat} (hk : k < (ordL n).length) (h : crB n zs (ordL n)[k] = false) : tookP n zs (k + 1) = tookP n zs k := by
  unfold tookP
  rw [filter_takeP n zs hk, if_neg (by rw [h]; simp), List.append_nil]
theorem took_all (n : Nat) (zs : List Int) : tookP n zs (ordL n).length = critL n zs := by
  unfold tookP critL
  rw [List.take_length]
theorem took_len (n : Nat) (zs : List Int) (k : Nat) : (tookP n zs k).length ≤ k := by
  unfold tookP
  exact Nat.le_trans (List.length_filter_le _ _) (List.length_take_le _ _)
/-- the map as the first loop has it -/
def SeenI (W : World) (N : Nat) (zs : List Int) (k : Nat) (wq : World) : Prop := Below W.heap.size W wq ∧ OM W.heap.size k (seenB N zs k) wq
/-- the map and the list as the second loop has them -/
def TookI (W : World) (N : Nat) (zs : List Int) (k : Nat) (v : Value) (wq : World) : Prop :=
  Below W.heap.size W wq ∧ OM W.heap.size 81 (stillB N zs k) wq ∧ OwnsP wq (W.heap.size + 1) v (ofP (tookP N zs k))
theorem OM.more {b n m : Nat} {f : Nat × Nat → Bool} {w : World} (h : OM b n f w) (hm : n ≤ m) : OM b m f w := by
  obtain ⟨D, h1, h2⟩ := h
  exact ⟨D, h1.mono hm, h2⟩
theorem implValid_was (n : Int) (a : Option Addr) (cap : Nat) (zs : List Int) (w : World) (r : Bool) (hi : Ints w a zs) (hn : zs.length ≤ 1048576) (hr : vsB n zs = r) :
    Calls Try.prog 26 #[.agg #[.int .i64 n, .slice a zs.length cap]] w fun e w' => e = .returned (.bool r) ∧ Below w.heap.size w w' := by
  subst hr
  exact implValidSpace_any n a cap zs w hi hn
theorem openAsker1_was (n c b : Int) (a : Option Addr) (cap g : Nat) (zs : List Int) (w : World) (r : Bool) (hi : Ints w a zs) (hn : zs.length ≤ 1048576) (bx : Box w g n a zs.length cap) (hr : ∀ x ∈ zs, 0 ≤ x ∧ x ≤ 15) (hc : 0 ≤ c ∧ c ≤ 15) (hb : 0 ≤ b) (ho : openB zs c b = r) :
    Calls Try.prog 69 #[.agg #[.int .i64 c, .int .i64 b], .pointer (some ⟨g, 0, none⟩)] w fun e w' => e = .returned (.bool r) ∧ Below w.heap.size w w' := by
  subst ho
  exact openAsker1_any n c b a cap g zs w hi hn bx hr hc hb

set_option maxHeartbeats 4000000 in
set_option maxRecDepth 100000 in
theorem implCriticalParts_any (n : Int) (a : Option Addr) (cap : Nat) (zs : List Int) (w : World) (hi : Ints w a zs) (hn : zs.length ≤ 1048576) :
    Calls Try.prog 24 #[.agg #[.int .i64 n, .slice a zs.length cap]] w (GivesP (crR n zs) w) := by
  obtain ⟨j0, hj0, hy0, hy1, hy2⟩ := info_parts info_part
  have S0 := SV.new w n a zs cap none [] 26 hi (Ints.nil _ _)
  clear hi
  obtain ⟨⟨_, c0, c1⟩, _⟩ := S0.pair
  by_cases hv : vsB n zs = false
  · have HV := hide (crR_no hv)
    have HVV := hide hv
    clear hv
    go_enter Try.func24, Try.ntmps24
    go_wp2_with fail
    refine (implValid_was _ _ _ _ _ false S0.2.1 hn HVV.out).mono ?_
    rintro e w1 ⟨rfl, hb⟩
    go_wp2
    go_ret
    exact ⟨_, rfl, by rw [HV.out]; exact World.ownsRow_nil _ _ _ _, (S0.below hb).2.2.2⟩
  · have hv : vsB n zs = true := by simpa using hv
    have HVV := hide hv
    have HV := hide (crR_yes hv)
    have hV := valid_of hv
    have HR := hide (valid_range hV)
    have hN4 := hV.1
    obtain ⟨N, hN⟩ : ∃ N : Nat, n = (N : Int) := ⟨n.toNat, by omega⟩
    subst hN
    have hN : 1 ≤ N ∧ N ≤ 4 := by omega
    have hol : (ordL N).length ≤ 81 := by simpa using range5_of ord_len hN.2
    have HOL := hide hol
    have HO := hide (ofP_len (ordL N))
    have hmm := fun w => @run_makeMap Try.prog 58 w
    clear hV hN4 hv hol
    go_enter Try.func24, Try.ntmps24
    go_wp2_with fail
    refine (implValid_was _ _ _ _ _ true S0.2.1 hn HVV.out).mono ?_
    rintro e w1 ⟨rfl, hb⟩
    have S1 := S0.below hb
    clear c0 c1 S0 hb
    obtain ⟨⟨_, c0, c1⟩, _⟩ := S1.pair
    go_wp2_with fail
    refine (partsInOrder_any N _ hN).mono ?_
    rintro e w2 ⟨v, rfl, own2, hb2⟩
    obtain ⟨av, cv, rfl, _⟩ := own2.form
    have S2 := S1.below hb2
    clear c0 c1 S1 hb2
    obtain ⟨⟨_, c0, c1⟩, _⟩ := S2.pair
    go_wp2_with fail
    refine (openAsker_any _ _ _ _ _).mono ?_
    rintro e w3 ⟨rfl, rfl⟩
    have bel := bel1 w2 (.cells #[.int .i64 (N : Int), .slice a zs.length cap] 26)
    have own3 := own2.below bel
    have S3 := S2.below bel
    have bx3 := Box.new w2 (N : Int) a zs.length cap 26
    obtain ⟨W, hW⟩ : ∃ W : World, W = w2.alloc (.cells #[.int .i64 (N : Int), .slice a zs.length cap] 26) := ⟨_, rfl⟩
    rw [← hW] at own3 S3 bx3 ⊢
    have hwW := hide (show w.heap.size ≤ W.heap.size from S3.2.2.2.size)
    have M0 : SeenI W N zs 0 (W.alloc (.map #[] 0)) := ⟨bel1 W _, (OM.made W).congr (fun q _ _ => (seen_zero N zs q).symm)⟩
    have HW := hide hW
    have HS := hide S3
    have HB := hide bx3
    have HOW := hide own3
    clear bel own2 own3 S2 S3 bx3 c0 c1 hW
    go_wp2_with fail
    go_loopw [22] (fun i wr => ∃ k : Nat, k ≤ (ofP (ordL N)).length ∧ i = .int .i64 k ∧ SeenI W N zs k wr) (fun i _ => (ofP (ordL N)).length - (intOf i).toNat)
    case atStart => exact ⟨0, Nat.zero_le _, rfl, M0⟩
    case round =>
      clear M0
      obtain ⟨k, hk, rfl, hs⟩ := hrel
      have hp := (HOW.out.below hs.1).pints
      by_cases hlt : k < (ofP (ordL N)).length
      · have hlt' : k < (ordL N).length := by rw [← HO.out]; exact hlt
        have hk81 : k < 81 := by have := HOL.out; omega
        obtain ⟨bb, off, rfl, hbl, hc⟩ := hp (by omega)
        obtain ⟨h1, h2⟩ := hc k hlt
        rw [ofP_at hlt'] at h1 h2
        have h16 := ord_16 hN.2 (List.getElem_mem hlt')
        obtain ⟨pc, hpc⟩ : ∃ pc, pc = (ordL N)[k].1 := ⟨_, rfl⟩
        obtain ⟨pb, hpb⟩ : ∃ pb, pb = (ordL N)[k].2 := ⟨_, rfl⟩
        have hpp : (ordL N)[k] = (pc, pb) := by rw [hpc, hpb]
        rw [← hpc, ← hpb] at h16
        simp only [← hpc] at h1
        simp only [← hpb] at h2
        have HPP := hide hpp
        have b5 := bel1 wr (.cells #[.int .i64 (pc : Int), .int .i64 (pb : Int)] 60)
        have H5 := hide (hs.1.trans (b5.mono hs.1.size))
        have M5 := hide (hs.2.below b5)
        have px := PBox.new wr (pc : Int) (pb : Int) 60
        have PX := hide px
        obtain ⟨_, p0, p1⟩ := px
        have h15 : Hid (((0 : Int) ≤ (pc : Int) ∧ (pc : Int) ≤ 15) ∧ (0 : Int) ≤ (pb : Int)) := ⟨⟨by omega, by omega⟩, by omega⟩
        have HLT' := hide hlt'
        have hnn : k < maxLen := by have := HOL.out; have := HO.out; unfold maxLen; omega
        clear hc hp hpc hpb hpp b5
        cases hop : opn zs (pc, pb) with
        | true =>
          have hop' : Hid (openB zs (pc : Int) (pb : Int) = true) := hop
          have HOP : Hid (opn zs (ordL N)[k] = true) := (congrArg (opn zs) HPP.out).trans hop
          have HS5 := hide hs
          clear hop hs
          go_wp2_with fail
          refine (openAsker1_was (N : Int) _ _ a cap _ zs _ true (HS.out.2.1.below H5.out) hn (HB.out.below H5.out) HR.out h15.out.1 h15.out.2 hop'.out).mono ?_
          rintro e w6 ⟨rfl, b6⟩
          have H6 : Hid (SeenI W N zs (k + 1) w6) := ⟨H5.out.trans (b6.mono H5.out.size), ((M5.out.below b6).more (Nat.le_succ k)).congr (fun q _ _ => (seen_open HLT'.out HOP.out q).symm)⟩
          go_wp2
          go_roundw
          case rel => exact ⟨k + 1, by omega, by go_num, H6.out⟩
          case measure => simp only [intOf]; omega
        | false =>
          have hop' : Hid (openB zs (pc : Int) (pb : Int) = false) := hop
          have HOP : Hid (opn zs (ordL N)[k] = false) := (congrArg (opn zs) HPP.out).trans hop
          clear hop hs
          go_wp2_with fail
          refine (openAsker1_was (N : Int) _ _ a cap _ zs _ false (HS.out.2.1.below H5.out) hn (HB.out.below H5.out) HR.out h15.out.1 h15.out.2 hop'.out).mono ?_
          rintro e w6 ⟨rfl, b6⟩
          obtain ⟨D, hown6, hm6, hk6⟩ := M5.out.below b6
          have H6 := hide (H5.out.trans (b6.mono H5.out.size))
          obtain ⟨_, u0, u1⟩ := PX.out.below b6
          have HM6 := hide hm6
          have HK6 := hide hk6
          clear p0 p1 b6 hm6 hk6
          go_wp2_with (first
            | (at_mapUpdate; refine wpList_mapUpdate_own _ rfl _ _ _ 58 rfl 60 4 part_keyed Try.underlying58 _ W.heap.size k D rfl hown6 hnn _ _ _ rfl rfl (part_key _ _ (wf_16 pc h16.1) (wf_16 pb h16.2)) (.lit (.bool true)) [] (plainElem_bool Try.underlying4 true) ?_; intro w7 hown7 hgrow7)
            | go_in)
          have H7 : Hid (SeenI W N zs (k + 1) w7) := ⟨bgrown H6.out hgrow7 H6.out.size (fun j hj => by cases hj; exact Nat.le_refl _), (OM.put hown7 HM6.out HK6.out h16.1 h16.2).congr (fun q _ _ => (congrArg (fun z => if q = z then true else seenB N zs k q) HPP.out.symm).trans (seen_closed HLT'.out HOP.out q))⟩
          clear hown6 hown7 hgrow7 u0 u1
          go_wp2
          go_roundw
          case rel => exact ⟨k + 1, by omega, by go_num, H7.out⟩
          case measure => simp only [intOf]; omega
      · obtain rfl : k = (ofP (ordL N)).length := by omega
        have T0 : TookI W N zs 0 (.slice none 0 0) wr := ⟨hs.1, (hs.2.more (by rw [HO.out]; exact HOL.out)).congr (fun q _ _ => by rw [HO.out]; exact seen_end N zs q), World.ownsRow_nil _ _ _ _⟩
        clear hs hp hmm
        go_wp2_with fail
        go_loopw [8, 35] (fun v i wr => ∃ k : Nat, k ≤ (ofP (ordL N)).length ∧ i = .int .i64 k ∧ TookI W N zs k v wr) (fun _ i _ => (ofP (ordL N)).length - (intOf i).toNat)
        case atStart => exact ⟨0, Nat.zero_le _, rfl, T0⟩
        case round =>
          clear T0
          obtain ⟨k, hk, rfl, hs⟩ := hrel
          have hp := (HOW.out.below hs.1).pints
          obtain ⟨va, vc, rfl, _⟩ := hs.2.2.form
          by_cases hlt : k < (ofP (ordL N)).length
          · have hlt' : k < (ordL N).length := by rw [← HO.out]; exact hlt
            have hk81 : k < 81 := by have := HOL.out; omega
            obtain ⟨bb, off, rfl, hbl, hc⟩ := hp (by omega)
            obtain ⟨h1, h2⟩ := hc k hlt
            rw [ofP_at hlt'] at h1 h2
            have h16 := ord_16 hN.2 (List.getElem_mem hlt')
            obtain ⟨pc, hpc⟩ : ∃ pc, pc = (ordL N)[k].1 := ⟨_, rfl⟩
            obtain ⟨pb, hpb⟩ : ∃ pb, pb = (ordL N)[k].2 := ⟨_, rfl⟩
            have hpp : (ordL N)[k] = (pc, pb) := by rw [hpc, hpb]
            rw [← hpc, ← hpb] at h16
            simp only [← hpc] at h1
            simp only [← hpb] at h2
            have HPP := hide hpp
            have b5 := bel1 wr (.cells #[.int .i64 (pc : Int), .int .i64 (pb : Int)] 60)
            have H5 := hide (hs.1.trans (b5.mono hs.1.size))
            have hlook := (hs.2.1.below b5).look h16.1 h16.2
            have M5 := hide (hs.2.1.below b5)
            have px := PBox.new wr (pc : Int) (pb : Int) 60
            have PX := hide px
            obtain ⟨_, p0, p1⟩ := px
            have HLT' := hide hlt'
            have hst : stillB N zs k (pc, pb) = crB N zs (pc, pb) := (congrArg (stillB N zs k) hpp.symm).trans ((still_turn hN.2 (zs := zs) hlt').trans (congrArg (crB N zs) hpp))
            rw [hst] at hlook
            cases hcr : crB N zs (pc, pb) with
            | false =>
              have HCR : Hid (crB N zs (ordL N)[k] = false) := (congrArg (crB N zs) HPP.out).trans hcr
              have H6 : Hid (TookI W N zs (k + 1) (.slice va (ofP (tookP N zs k)).length vc) (wr.alloc (.cells #[.int .i64 (pc : Int), .int .i64 (pb : Int)] 60))) :=
                ⟨H5.out, M5.out.congr (fun q _ _ => (still_no HLT'.out HCR.out).symm), by rw [took_no HLT'.out HCR.out]; exact hs.2.2.below b5⟩
              rw [hcr] at hlook
              clear hc hp hpc hpb hpp b5 hst hcr hs
              go_wp2
              go_roundw
              case rel => exact ⟨k + 1, by omega, by go_num, H6.out⟩
              case measure => simp only [intOf]; omega
            | true =>
              have HCR : Hid (crB N zs (ordL N)[k] = true) := (congrArg (crB N zs) HPP.out).trans hcr
              rw [hcr] at hlook
              have hop := hs.2.2.below b5
              have hop' : (wr.alloc (.cells #[.int .i64 (pc : Int), .int .i64 (pb : Int)] 60)).ownsRow (W.heap.size + 1) 60 2 (.slice va (ofP (tookP N zs k)).length vc) (ofP (tookP N zs k)).length (pflat (ofP (tookP N zs k))) := hop
              have hol : (ofP (tookP N zs k)).length ≤ 81 := by
                rw [ofP_len]
                have := took_len N zs k
                have := HOL.out
                omega
              have hws := H5.out.size
              have hwb := HOW.out
              have HS' := hide hs
              have hvl := hide (fun j hj => (pown_ge hs.2.2 j hj))
              have hWlt : W.heap.size + 1 ≤ wr.heap.size := hs.2.1.lt
              clear hc hp hpc hpb hpp b5 hst hcr hs hwb
              go_wp2_with (first
                | (at_builtin; refine wpList_append_own _ rfl _ _ 37 rfl (W.heap.size + 1) 60 j0 (.agg #[.int .i64 0, .int .i64 0]) 2 16 Try.underlying37 hj0 hy0 hy1 hy2 rfl (by decide) _ _ _ rfl (hop'.alloc _) ⟨wr.heap.size + 1, 0, none⟩ 1 1 [.int .i64 (pc : Int), .int .i64 (pb : Int)] rfl rfl (by have hh := World.news_of_block (cs := #[.int .i64 (pc : Int), .int .i64 (pb : Int)]) (t := 60) (fr := (0, 0)) (heap_alloc_new (wr.alloc (.cells #[.int .i64 (pc : Int), .int .i64 (pb : Int)] 60)) _); simp only [World.size_alloc] at hh; exact hh) (by intro u hu; simp at hu; rcases hu with rfl | rfl <;> rfl) (by unfold maxLen; omega) (by first | omega | (simp; omega)) (by first | omega | (simp; omega)) ?_)
                | fail)
              intro v' w6 hown' hgrow _
              have hHop : OwnsP wr (W.heap.size + 1) (.slice va (ofP (tookP N zs k)).length vc) (ofP (tookP N zs k)) := HS'.out.2.2
              have hrow : ∀ j, (Value.slice va (ofP (tookP N zs k)).length vc).ownBlock = some j → W.heap.size + 1 ≤ j ∧ j < wr.heap.size := fun j hj => hvl.out j hj
              have h7a := (bel1 (wr.alloc (.cells #[.int .i64 (pc : Int), .int .i64 (pb : Int)] 60)) (.cells #[.int .i64 (pc : Int), .int .i64 (pb : Int)] 60))
              have M7 := hide ((M5.out.below h7a).grown hgrow (fun e => by have := hrow _ e.symm; omega))
              have P7 := hide ((PX.out.below h7a).grown hgrow (fun e => by have := hrow _ e.symm; omega))
              have B7 := hide (bgrown (H5.out.trans (h7a.mono H5.out.size)) hgrow (H5.out.trans (h7a.mono H5.out.size)).size (fun j hj => by have := hrow j hj; omega))
              have V7 : OwnsP w6 (W.heap.size + 1) v' (ofP (tookP N zs k) ++ [((pc : Int), (pb : Int))]) := OwnsP.push hown'
              have e7 : ofP (tookP N zs k) ++ [((pc : Int), (pb : Int))] = ofP (tookP N zs (k + 1)) := by
                rw [took_yes HLT'.out HCR.out]
                unfold ofP
                rw [List.map_append]
                exact congrArg (fun z : Nat × Nat => _ ++ [((z.1 : Int), (z.2 : Int))]) HPP.out.symm
              rw [e7] at V7
              obtain ⟨qa, qc, rfl, _⟩ := V7.form
              have HV7 := hide V7
              obtain ⟨_, r0, r1⟩ := P7.out
              clear hop hop' hown' hgrow V7 e7 h7a hHop p0 p1 hlook
              go_wp2_with fail
              refine (dropGreater_om W.heap.size 81 _ pc pb _ h16.1 h16.2 M7.out).mono ?_
              rintro e w8 ⟨rfl, M8, g8⟩
              have H8 : Hid (TookI W N zs (k + 1) (.slice qa (ofP (tookP N zs (k + 1))).length qc) w8) :=
                ⟨bgrown B7.out g8 B7.out.size (fun j hj => by cases hj; exact Nat.le_refl _), M8.congr (fun q _ _ => ((still_step HLT'.out HCR.out q).trans (congrArg (fun z => stillB N zs k q && !gtP z q) HPP.out)).symm), HV7.out.other g8 (fun g e => by cases e; exact Nat.lt_succ_self _)⟩
              clear M8 g8 r0 r1
              go_wp2
              go_roundw
              case rel => exact ⟨k + 1, by omega, by go_num, H8.out⟩
              case measure => simp only [intOf]; omega
          · obtain rfl : k = (ofP (ordL N)).length := by omega
            have HT := hide hs
            clear hs hp
            go_wp2
            go_ret
            refine ⟨_, rfl, ?_, bnext HS.out.2.2.2 (HT.out.1.mono (Nat.le_refl _))⟩
            have e1 : crR (N : Int) zs = ofP (tookP N zs (ofP (ordL N)).length) := by rw [HV.out, Int.toNat_natCast, HO.out, took_all]
            rw [e1]
            exact HT.out.2.2.le (Nat.le_succ_of_le hwW.out)
theorem crR_81 (n : Int) (zs : List Int) : (crR n zs).length ≤ 81 := by
  rcases Bool.eq_false_or_eq_true (vsB n zs) with h | h
  · have hV := valid_of h
    have hN := hV.1
    rw [crR_yes h, ofP_len]
    have h1 : (ordL n.toNat).length ≤ 81 := by simpa using range5_of ord_len (n := n.toNat) (by omega)
    exact Nat.le_trans (List.length_filter_le _ _) h1
  · rw [crR_no h]
    simp
theorem crR_len (n : Int) (zs : List Int) : (crR n zs).length ≤ 1048576 := Nat.le_trans (crR_81 n zs) (by omega)
end Go.Proofs.Ytbnnblfgpdfmpaa

/- LawH: The helpers of the laws of promises: equalInts, isIn, among, ascends, weight, power. -/
namespace Go.Proofs.Ytbnnblfgpdfmpaa
open Go.RowKit Go.Joins


/-- whether two lists are the same -/
def eqB (xs ys : List Int) : Bool := decide (xs = ys)
theorem eqB_refl (xs : List Int) : eqB xs xs = true := by simp [eqB]
set_option maxHeartbeats 400000 in
theorem equalInts_any (a b : Option Addr) (ca cb : Nat) (xs ys : List Int) (w : World) (hx : Ints w a xs) (hy : Ints w b ys) (hn : xs.length ≤ 1048576) (hm : ys.length ≤ 1048576) :
    Calls Try.prog 49 #[.slice a xs.length ca, .slice b ys.length cb] w fun e w' => e = .returned (.bool (eqB xs ys)) ∧ Below w.heap.size w w' := by
  by_cases hl : xs.length = ys.length
  · have hne : ((xs.length : Int) != (ys.length : Int)) = false := by simp [hl]
    have HL := hide hl
    clear hl
    go_enter Try.func49, Try.ntmps49
    go_wp2
    go_loopw [5] (fun i wr => ∃ k : Nat, k ≤ xs.length ∧ i = .int .i64 k ∧ (∀ j, j < k → xs.getD j 0 = ys.getD j 0) ∧ Below w.heap.size w wr) (fun i _ => xs.length - (intOf i).toNat)
    case atStart => exact ⟨0, Nat.zero_le _, rfl, fun j hj => by omega, Below.refl _ _⟩
    case round =>
      obtain ⟨k, hk, rfl, hall, hb⟩ := hrel
      have HA := hide hall
      clear hall
      by_cases hlt : k < xs.length
      · obtain ⟨b1, o1, rfl, hb1, hc1⟩ := hx (by omega)
        obtain ⟨b2, o2, rfl, hb2, hc2⟩ := hy (by rw [← HL.out]; omega)
        have hlt2 : k < ys.length := by rw [← HL.out]; exact hlt
        have h1 := (hb.cell (p := ⟨b1, o1 + k, none⟩) hb1).trans (hc1 k hlt)
        have h2 := (hb.cell (p := ⟨b2, o2 + k, none⟩) hb2).trans (hc2 k hlt2)
        clear hc1 hc2
        rw [getD_lt hlt] at h1
        rw [getD_lt hlt2] at h2
        by_cases he : xs[k] = ys[k]
        · have hE : (xs[k] != ys[k]) = false := by simpa using he
          have HE := hide he
          clear he
          go_wp2
          go_quiet (fail)
          go_wp2
          go_roundw
          case rel => exact ⟨k + 1, by omega, by go_num, fun j hj => by
            rcases Nat.lt_or_ge j k with h | h
            · exact HA.out j h
            · obtain rfl : j = k := by omega
              rw [getD_lt hlt, getD_lt hlt2]
              exact HE.out, hb.trans ((belN _ _).mono hb.size)⟩
          case measure => simp only [intOf]; omega
        · have hE : (xs[k] != ys[k]) = true := by simpa using he
          go_wp2
          go_quiet (fail)
          go_wp2
          go_ret
          exact ⟨ret_bool (by simp [eqB]; intro e; subst e; exact he rfl), hb.trans ((belN _ _).mono hb.size)⟩
      · obtain rfl : k = xs.length := by omega
        go_wp2
        go_ret
        refine ⟨ret_bool ?_, hb⟩
        have : xs = ys := ints_ext HL.out HA.out
        simp [this, eqB]
  · have hne : ((xs.length : Int) != (ys.length : Int)) = true := by simp; omega
    have HL := hide (show ¬ xs = ys from fun e => hl (by rw [e]))
    clear hl
    go_enter Try.func49, Try.ntmps49
    go_wp2
    go_ret
    exact ⟨ret_bool (by simp [eqB, HL.out]), Below.refl _ _⟩
theorem equalInts_yes (a b : Option Addr) (ca cb : Nat) (xs : List Int) (w : World) (hx : Ints w a xs) (hy : Ints w b xs) (hn : xs.length ≤ 1048576) :
    Calls Try.prog 49 #[.slice a xs.length ca, .slice b xs.length cb] w fun e w' => e = .returned (.bool true) ∧ Below w.heap.size w w' :=
  (equalInts_any a b ca cb xs xs w hx hy hn hn).mono fun _ _ ⟨he, hb⟩ => ⟨he.trans (ret_bool (eqB_refl _)), hb⟩


/-- whether all of a list are in another one -/
def amongB (xs ys : List Int) : Bool := xs.all fun x => hasB ys x
theorem amongB_true {xs ys : List Int} (h : ∀ x ∈ xs, x ∈ ys) : amongB xs ys = true := List.all_eq_true.2 fun x hx => hasB_true (h x hx)

/-- Each is more than the one before. -/
def Ups (zs : List Int) : Prop := ∀ i, i < zs.length → 0 < i → zs.getD (i - 1) 0 < zs.getD i 0

end Go.Proofs.Ytbnnblfgpdfmpaa

/- EqSp: equalSpace of the laws. -/
namespace Go.Proofs.Ytbnnblfgpdfmpaa
open Go.RowKit Go.Joins

/-- whether two spaces are the same -/
def eqS (n m : Int) (xs ys : List Int) : Bool := decide (n = m) && eqB xs ys
theorem equalSpace_any (n m : Int) (a b : Option Addr) (ca cb : Nat) (xs ys : List Int) (w : World) (hx : Ints w a xs) (hy : Ints w b ys) (hn : xs.length ≤ 1048576) (hm : ys.length ≤ 1048576) :
    Calls Try.prog 21 #[.agg #[.int .i64 n, .slice a xs.length ca], .agg #[.int .i64 m, .slice b ys.length cb]] w fun e w' => e = .returned (.bool (eqS n m xs ys)) ∧ Below w.heap.size w w' := by
  by_cases h : n = m
  · subst h
    have hne : (n == n) = true := by simp
    have HE := hide (show eqB xs ys = eqS n n xs ys from by unfold eqS; simp)
    go_enter Try.func21, Try.ntmps21
    go_wp2_with fail
    refine (equalInts_any _ _ _ _ _ _ _ (hx.below (bel2 w _ _)) (hy.below (bel2 w _ _)) hn hm).mono ?_
    rintro e w1 ⟨rfl, hb⟩
    go_wp2
    go_ret
    exact ⟨ret_bool HE.out, bnext (bel2 w _ _) hb⟩
  · have hne : (n == m) = false := by simpa using h
    have HE := hide (show false = eqS n m xs ys from by unfold eqS; simp [h])
    clear h
    go_enter Try.func21, Try.ntmps21
    go_wp2_with fail
    go_ret
    exact ⟨ret_bool HE.out, bel2 w _ _⟩
theorem equalSpace_was (n m : Int) (a b : Option Addr) (ca cb : Nat) (xs ys : List Int) (w : World) (r : Bool) (hx : Ints w a xs) (hy : Ints w b ys) (hn : xs.length ≤ 1048576) (hm : ys.length ≤ 1048576) (hr : eqS n m xs ys = r) :
    Calls Try.prog 21 #[.agg #[.int .i64 n, .slice a xs.length ca], .agg #[.int .i64 m, .slice b ys.length cb]] w fun e w' => e = .returned (.bool r) ∧ Below w.heap.size w w' := by
  subst hr
  exact equalSpace_any n m a b ca cb xs ys w hx hy hn hm
theorem eqS_refl (n : Int) (xs : List Int) : eqS n n xs xs = true := by unfold eqS; rw [eqB_refl]; simp
end Go.Proofs.Ytbnnblfgpdfmpaa

/- MedI: impl.IsMedian. -/
namespace Go.Proofs.Ytbnnblfgpdfmpaa
open Go.RowKit Go.Joins

theorem implValidSpace_isIsMedian (n : Int) (a : Option Addr) (cap : Nat) (zs : List Int) (w : World) (r : Bool) (hi : Ints w a zs) (hn : zs.length ≤ 1048576) (hr : vsB n zs = r) :
    Calls Try.prog 26 #[.agg #[.int .i64 n, .slice a zs.length cap]] w fun e w' => e = .returned (.bool r) ∧ Below w.heap.size w w' :=
  (implValidSpace_any n a cap zs w hi hn).mono fun _ _ ⟨he, hb⟩ => ⟨he.trans (ret_bool hr), hb⟩

set_option maxHeartbeats 2000000 in
theorem implIsMedian_any (n : Int) (a : Option Addr) (cap : Nat) (zs : List Int) (w : World) (hi : Ints w a zs) (hn : zs.length ≤ 1048576) (hcap : zs.length ≤ cap) :
    Calls Try.prog 22 #[.agg #[.int .i64 n, .slice a zs.length cap]] w fun e w' => e = .returned (.bool (closedB med n zs)) ∧ Below w.heap.size w w' := by
  have S0 := SV.new w n a zs cap none [] 26 hi (Ints.nil _ _)
  clear hi
  by_cases hv : vsB n zs = false
  · have HN := hide (closedB_no (f := med) hv)
    have HV := hide hv
    clear hv
    obtain ⟨⟨_, c0, c1⟩, _⟩ := S0.pair
    go_enter Try.func22, Try.ntmps22
    go_wp2_with fail
    first
      | go_region_with ((go_at_call 26; refine (implValidSpace_isIsMedian _ _ _ _ _ false S0.drew.2.1 hn HV.out).mono ?_; rintro e w1 ⟨rfl, hb⟩; have S1 := S0.drew.below hb))
      | fail
    all_goals
      go_wp2
      go_ret
      exact ⟨ret_bool HN.out.symm, S1.2.2.2⟩
  · have hv : vsB n zs = true := by simpa using hv
    have HV := hide hv
    have hV := hide (valid_of hv)
    have HR := hide (valid_range hV.out)
    have hjl : (joinL med zs).length = (joined med (zs.map Int.toNat)).length := by unfold joinL; rw [List.length_map]
    have hE : (((joinL med zs).length : Int) == (zs.length : Int)) = closedB med n zs := by
      unfold closedB
      rw [hv, Bool.true_and, hjl, Bool.eq_iff_iff, beq_iff_eq, beq_iff_eq]
      omega
    clear hv hjl
    obtain ⟨⟨_, c0, c1⟩, _⟩ := S0.pair
    go_enter Try.func22, Try.ntmps22
    go_wp2_with fail
    go_region_held3 (fun w' => w'.cell? ⟨w.heap.size, 0, none⟩ = some (.int .i64 n) ∧ w'.cell? ⟨w.heap.size, 1, none⟩ = some (.slice a zs.length cap))
      (first
        | exact ⟨c0, c1⟩
        | exact ⟨S2.1.2.1, S2.1.2.2⟩
        | exact ⟨S1.1.2.1, S1.1.2.2⟩
        | go_keep)
      (first
        | (go_at_call 26; refine (implValidSpace_isIsMedian _ _ _ _ _ true S0.drew.2.1 hn HV.out).mono ?_; rintro e w1 ⟨rfl, hb⟩; have S1 := S0.drew.below hb)
        | (go_at_call 50; refine (joinedMed_any _ _ _ _ S1.2.1 hn hcap HR.out).mono ?_; rintro e w2 ⟨v, rfl, ov, hb2⟩; obtain ⟨av, cv, rfl, iv, _⟩ := ov.form; have S2 := S1.below hb2))
    all_goals
      go_wp2
      go_ret
      exact ⟨rfl, S2.2.2.2⟩
end Go.Proofs.Ytbnnblfgpdfmpaa

/- OpenI: impl.IsOpen answers what IsOpen asks. -/
namespace Go.Proofs.Ytbnnblfgpdfmpaa
open Go.RowKit Go.Joins

end Go.Proofs.Ytbnnblfgpdfmpaa

/- SwI: SpaceWithout in the program. -/
namespace Go.Proofs.Ytbnnblfgpdfmpaa
open Go.RowKit Go.Joins

end Go.Proofs.Ytbnnblfgpdfmpaa

/- CrL: Contracts that the laws on critical parts share. -/
namespace Go.Proofs.Ytbnnblfgpdfmpaa
open Go.RowKit Go.Joins

theorem implCrit_was (n : Int) (a : Option Addr) (cap : Nat) (zs : List Int) (ps : List (Int × Int)) (w : World) (hi : Ints w a zs) (hn : zs.length ≤ 1048576) (h : crR n zs = ps) :
    Calls Try.prog 24 #[.agg #[.int .i64 n, .slice a zs.length cap]] w (GivesP ps w) := by
  subst h
  exact implCriticalParts_any n a cap zs w hi hn
theorem implMed_was (n : Int) (a : Option Addr) (cap : Nat) (zs : List Int) (w : World) (r : Bool) (hi : Ints w a zs) (hn : zs.length ≤ 1048576) (hcap : zs.length ≤ cap) (hr : closedB med n zs = r) :
    Calls Try.prog 22 #[.agg #[.int .i64 n, .slice a zs.length cap]] w fun e w' => e = .returned (.bool r) ∧ Below w.heap.size w w' := by
  subst hr
  exact implIsMedian_any n a cap zs w hi hn hcap
theorem crit_of {N : Nat} {zs : List Int} {L : List (Nat × Nat)} (h : crR (N : Int) zs = ofP L) (hv : vsB (N : Int) zs = true) : L = critL N zs := by
  rw [crR_yes hv, Int.toNat_natCast] at h
  have inj : ∀ (x y : List (Nat × Nat)), ofP x = ofP y → x = y := fun x => by
    induction x with
    | nil => intro y e; cases y with
      | nil => rfl
      | cons b y => cases e
    | cons a x ih => intro y e; cases y with
      | nil => cases e
      | cons b y =>
        have e' : ((a.1 : Int), (a.2 : Int)) :: ofP x = ((b.1 : Int), (b.2 : Int)) :: ofP y := e
        rw [List.cons.injEq, Prod.mk.injEq] at e'
        rw [ih y e'.2]
        obtain ⟨⟨e1, e2⟩, _⟩ := e'
        rw [show a = b from Prod.ext (by omega) (by omega)]
  exact (inj _ _ h).symm
end Go.Proofs.Ytbnnblfgpdfmpaa
