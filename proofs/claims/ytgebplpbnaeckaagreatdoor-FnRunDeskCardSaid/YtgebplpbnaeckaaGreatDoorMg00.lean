/- Texts of this seat one behind the other: Ints, Math, Base, Laws. Conditions: none. -/
import Derived.Test.YtgebplpbnaeckaaGreatDoorChecked
import Derived.WalkKit
import Derived.ProofKit
import Derived.OpenShut
import Derived.ChangeOld
import Derived.Below
import Derived.Lib.SmallJoins
import Derived.WalkSpells
import Derived.WalkLawsBesides
import Derived.RegionTactic
import Derived.Deep.QuietTactic
import Derived.BigQuiet
import Derived.OwnWalk
import Derived.Outline
import Derived.Deep.AppendLies
import Derived.Laws.OwnMore

/- Ints: Words on slices of integers in memory, and how a space, a part and a list among the arguments are opened. Nothing of the program. -/
namespace Go.Proofs.YtgebplpbnaeckaaGreatDoor
open Go.ChangeShapes Go.WideShapes Go.ChangeAt Go.RowKit Go.Joins Go.Deep

theorem ret_int {k : IntKind} {a b : Int} (h : a = b) : Ending.returned (.int k a) = .returned (.int k b) := by rw [h]
theorem ret_bool {a b : Bool} (h : a = b) : Ending.returned (.bool a) = .returned (.bool b) := by rw [h]

/-- A fact kept from the walk. -/
theorem hide {p : Prop} (h : p) : Hid p := h

theorem bel1 (w : World) (o1 : Obj) : Below w.heap.size w (w.alloc o1) := (Below.refl _ _).alloc (Nat.le_refl _) o1
theorem bel2 (w : World) (o1 o2 : Obj) : Below w.heap.size w ((w.alloc o1).alloc o2) := (bel1 w o1).alloc (by simp) o2
theorem bel3 (w : World) (o1 o2 o3 : Obj) : Below w.heap.size w (((w.alloc o1).alloc o2).alloc o3) := (bel2 w o1 o2).alloc (by simp; omega) o3
theorem bel4 (w : World) (o1 o2 o3 o4 : Obj) : Below w.heap.size w ((((w.alloc o1).alloc o2).alloc o3).alloc o4) := (bel3 w o1 o2 o3).alloc (by simp; omega) o4
theorem bcell {W w1 : World} (hb : Below W.heap.size W w1) : (∀ b o, b < W.heap.size → w1.cell? ⟨b, o, none⟩ = W.cell? ⟨b, o, none⟩) ∧ (∀ b o, b < W.heap.size → w1.frozen? ⟨b, o, none⟩ = W.frozen? ⟨b, o, none⟩) :=
  ⟨fun b o h => hb.cell (p := ⟨b, o, none⟩) h, fun b o h => hb.frozen (p := ⟨b, o, none⟩) h⟩
theorem bdrew {w w' : World} (h : Below w.drew.heap.size w.drew w') : Below w.heap.size w w' := ⟨h.os, h.tape, h.output, h.size, h.block⟩
theorem bdrew' {w w' : World} (h : Below w.heap.size w w') : Below w.heap.size w w'.drew := ⟨h.os, h.tape, h.output, h.size, h.block⟩
theorem bnext {w w1 w2 : World} (h1 : Below w.heap.size w w1) (h2 : Below w1.heap.size w1 w2) : Below w.heap.size w w2 := h1.trans (h2.mono h1.size)
theorem belN (w : World) (n : Nat) : Below w.heap.size w (w.drewN n) := ⟨rfl, rfl, rfl, Nat.le_refl _, fun _ _ => rfl⟩

/-- A slice value whose address is a reads as the numbers zs. -/
def Ints (w : World) (a : Option Addr) (zs : List Int) : Prop :=
  0 < zs.length → ∃ b off, a = some ⟨b, off, none⟩ ∧ b < w.heap.size ∧ ∀ k, k < zs.length → w.cell? ⟨b, off + k, none⟩ = some (.int .i64 (zs.getD k 0))
theorem Ints.below {w w' : World} {a : Option Addr} {zs : List Int} (h : Ints w a zs) (hb : Below w.heap.size w w') : Ints w' a zs := fun hz => by
  obtain ⟨b, off, e, hlt, hc⟩ := h hz
  exact ⟨b, off, e, Nat.lt_of_lt_of_le hlt hb.size, fun k hk => (hb.cell (p := ⟨b, off + k, none⟩) hlt).trans (hc k hk)⟩
theorem Ints.upto {B : Nat} {w w' : World} {a : Option Addr} {zs : List Int} (h : Ints w a zs) (hb : Below B w w') (hB : w.heap.size ≤ B) : Ints w' a zs :=
  h.below (hb.mono hB)
theorem Ints.nil (w : World) (a : Option Addr) : Ints w a [] := fun h => by simp at h

/-- v is a slice that a call has made, of the numbers zs: its row's block is at least base. -/
def Owns (w : World) (base : Nat) (v : Value) (zs : List Int) : Prop := w.ownsRow base 3 1 v zs.length (zs.map (Value.int .i64))
theorem Owns.form {w : World} {base : Nat} {v : Value} {zs : List Int} (h : Owns w base v zs) : ∃ a cap, v = .slice a zs.length cap ∧ Ints w a zs ∧ (∀ g o s, a = some ⟨g, o, s⟩ → base ≤ g ∧ g < w.heap.size) := by
  have h' : w.ownsRow base 3 1 v zs.length (zs.map (Value.int .i64)) := h
  rcases ownsRow_forms h' with ⟨rfl, h0⟩ | ⟨g, cap, rfl⟩
  · exact ⟨none, 0, by rw [h0], fun hz => by omega, fun g o s e => by cases e⟩
  · have hl := h'.lt g rfl
    refine ⟨_, cap, rfl, fun hz => ⟨g, 0, rfl, hl.2, fun k hk => ?_⟩, fun g' o s e => by cases e; exact hl⟩
    rw [Nat.zero_add, h'.cellAt k (by omega), List.getElem?_map, List.getElem?_eq_getElem hk, List.getD_eq_getElem?_getD, List.getElem?_eq_getElem hk]
    rfl
theorem Owns.ints {w : World} {base n cap : Nat} {a : Option Addr} {zs : List Int} (h : Owns w base (.slice a n cap) zs) : Ints w a zs := by
  obtain ⟨a', cap', e, hi, _⟩ := h.form
  simp only [Value.slice.injEq] at e
  obtain ⟨rfl, _, _⟩ := e
  exact hi
theorem Owns.below {w w' : World} {base : Nat} {v : Value} {zs : List Int} (h : Owns w base v zs) (hb : Below w.heap.size w w') : Owns w' base v zs :=
  World.ownsRow.kept (row := none) h ⟨hb.os, hb.tape, hb.output, hb.size, fun k hk _ => hb.block k hk⟩ (by rcases v.ownBlock with _ | g <;> simp)
theorem Owns.setBelow {w : World} {base : Nat} {v : Value} {zs : List Int} (h : Owns w base v zs) {p : Addr} (hp : p.block < base) (u : Value) : Owns (w.setCell p u) base v zs := ownsRow_setCell_below h hp u
theorem Owns.le {w : World} {base base' : Nat} {v : Value} {zs : List Int} (h : Owns w base v zs) (hb : base' ≤ base) : Owns w base' v zs := ownsRow_le h hb
theorem Owns.other {w w' : World} {base : Nat} {v : Value} {zs : List Int} {row : Option Nat} (h : Owns w base v zs) (hg : w.grownBy w' row) (hne : ∀ g, row = some g → g < base) : Owns w' base v zs := by
  have h' : w.ownsRow base 3 1 v zs.length (zs.map (Value.int .i64)) := h
  refine World.ownsRow.kept h' hg ?_
  rcases hv : v.ownBlock with _ | g
  · exact .inl rfl
  · right
    intro e
    have h1 := (h'.lt g hv).1
    have h2 := hne g e.symm
    omega

/-- A variable of a space's type: its two cells. -/
def Box (w : World) (g : Nat) (n : Int) (a : Option Addr) (len cap : Nat) : Prop := g < w.heap.size ∧ w.cell? ⟨g, 0, none⟩ = some (.int .i64 n) ∧ w.cell? ⟨g, 1, none⟩ = some (.slice a len cap)
theorem Box.below {w w' : World} {g : Nat} {n : Int} {a : Option Addr} {len cap : Nat} (h : Box w g n a len cap) (hb : Below w.heap.size w w') : Box w' g n a len cap :=
  ⟨Nat.lt_of_lt_of_le h.1 hb.size, (hb.cell (p := ⟨g, 0, none⟩) h.1).trans h.2.1, (hb.cell (p := ⟨g, 1, none⟩) h.1).trans h.2.2⟩
theorem Box.new (w : World) (n : Int) (a : Option Addr) (len cap : Nat) (t : TypeId) : Box (w.alloc (.cells #[.int .i64 n, .slice a len cap] t)) w.heap.size n a len cap :=
  ⟨by simp, by simp [go_sem], by simp [go_sem]⟩

section
variable {H : Type} {enc : TypeId × Value → H} {P : Program} {w : World} {base : Nat} {spare : Nat → Bool} {held : Bool}
theorem open_ints_list {t e : TypeId} {fuel : Nat} {cs : List Value} {x : DataW H × List MemPlace} (ht : P.underlying t = some (.slice e)) (he : P.underlying e = some (.int .i64)) (hc : P.cellsOf e = 1)
    (h : DataW.trod enc P w base spare held fuel t cs = some x) : ∃ a zs cap, cs = [.slice a zs.length cap] ∧ Ints w a zs ∧ zs.length ≤ maxLen := by
  rcases open_ints ht he hc h with ⟨hcs, _⟩ | ⟨x, l, c, zs, hcs, _, hl, hm, hz, _, hcell, _⟩
  · exact ⟨none, [], 0, hcs, Ints.nil _ _, by simp⟩
  · have hlz : l ≤ zs.length := by rw [hz]; split <;> omega
    have hlen : (zs.take l).length = l := by simp; omega
    refine ⟨some x, zs.take l, c, by rw [hlen]; exact hcs, fun h0 => ?_, by omega⟩
    rw [hlen] at h0
    have hc0 := hcell 0 (by omega)
    obtain ⟨b, off, spot⟩ := x
    have hspot : spot = none := by simpa [Addr.add] using World.cell?_spot hc0
    subst hspot
    have hb : b < w.heap.size := World.block_lt_of_cell? w ⟨b, off, none⟩ (by simpa [Addr.add] using hc0)
    refine ⟨b, off, rfl, hb, fun k hk => ?_⟩
    rw [hlen] at hk
    have hck := hcell k (by omega)
    have e1 : (⟨b, off, none⟩ : Addr).add k = ⟨b, off + k, none⟩ := by
      unfold Addr.add
      by_cases h : k = 0 <;> simp [h]
    rw [e1] at hck
    rw [hck]
    simp [List.getD_eq_getElem?_getD, hk]

theorem open_list {r : Reach} {b0 : Nat} {t e : TypeId} {v : Value} {d : DataW H} {p : List MemPlace} (ht : P.underlying t = some (.slice e)) (he : P.underlying e = some (.int .i64)) (hc : P.cellsOf e = 1)
    (hv : Value.okWide P w r b0 t v) (h : DataW.Trod enc P w base spare held t v d p) : ∃ a zs cap, v = .slice a zs.length cap ∧ Ints w a zs ∧ zs.length ≤ maxLen := by
  obtain ⟨a0, len0, cap0, rfl⟩ := okWide_slice ht hv
  obtain ⟨fuel, hf⟩ := h
  obtain ⟨a, zs, cap, hcs, hi, hl⟩ := open_ints_list ht he hc hf
  simp [Value.cells] at hcs
  obtain ⟨rfl, rfl, rfl⟩ := hcs
  exact ⟨a0, zs, cap0, rfl, hi, hl⟩

theorem open_space {r : Reach} {b0 : Nat} {t s e : TypeId} {f0 f1 : Field} {v : Value} {d : DataW H} {p : List MemPlace} (ht : P.underlying t = some (.struct #[f0, f1])) (hs : P.underlying s = some (.slice e)) (he : P.underlying e = some (.int .i64))
    (hone : oneCellFields P #[f0, f1] = true) (hC : P.cellsOf t = 2) (hc : P.cellsOf e = 1) (h0 : f0.type = e) (h1 : f1.type = s)
    (hv : Value.okWide P w r b0 t v) (h : DataW.Trod enc P w base spare held t v d p) : ∃ n a zs cap, v = .agg #[.int .i64 n, .slice a zs.length cap] ∧ (Lit.int .i64 n).wf = true ∧ Ints w a zs ∧ zs.length ≤ maxLen := by
  obtain ⟨c0, c1, y0, y1, m, rfl, _, _, hy0, hy1⟩ := open_agg2 ht hone hC hv h
  rw [h0] at hy0
  rw [h1] at hy1
  obtain ⟨n, e0, _, wn⟩ := DataW.trod_int he hy0
  obtain ⟨a, zs, cap, hcs, hi, hl⟩ := open_ints_list hs he hc hy1
  simp at e0 hcs
  subst e0 hcs
  exact ⟨n, a, zs, cap, rfl, wn, hi, hl⟩

theorem open_part {r : Reach} {b0 : Nat} {t e : TypeId} {f0 f1 : Field} {v : Value} {d : DataW H} {p : List MemPlace} (ht : P.underlying t = some (.struct #[f0, f1])) (he : P.underlying e = some (.int .i64))
    (hone : oneCellFields P #[f0, f1] = true) (hC : P.cellsOf t = 2) (h0 : f0.type = e) (h1 : f1.type = e)
    (hv : Value.okWide P w r b0 t v) (h : DataW.Trod enc P w base spare held t v d p) : ∃ c b, v = .agg #[.int .i64 c, .int .i64 b] ∧ (Lit.int .i64 c).wf = true ∧ (Lit.int .i64 b).wf = true := by
  obtain ⟨c0, c1, y0, y1, m, rfl, _, _, hy0, hy1⟩ := open_agg2 ht hone hC hv h
  rw [h0] at hy0
  rw [h1] at hy1
  obtain ⟨n, e0, _, wn⟩ := DataW.trod_int he hy0
  obtain ⟨n', e1, _, wn'⟩ := DataW.trod_int he hy1
  simp at e0 e1
  subst e0 e1
  exact ⟨n, n', rfl, wn, wn'⟩
end
end Go.Proofs.YtgebplpbnaeckaaGreatDoor

/- Math: Plain mathematics of this seat: ascending lists, what three judgments make. Nothing of the program. -/
namespace Go.Proofs.YtgebplpbnaeckaaGreatDoor
/-- strictly ascending -/
def Asc (l : List Nat) : Prop := l.Pairwise (· < ·)

theorem asc_ext : ∀ (l l' : List Nat), Asc l → Asc l' → (∀ x, x ∈ l ↔ x ∈ l') → l = l'
  | [], [], _, _, _ => rfl
  | [], b :: l', _, _, h => by have := (h b).2 (by simp); cases this
  | a :: l, [], _, _, h => by have := (h a).1 (by simp); cases this
  | a :: l, b :: l', h1, h2, h => by
    have h1' := List.pairwise_cons.1 h1
    have h2' := List.pairwise_cons.1 h2
    have hab : a = b := by
      have ha : a ∈ b :: l' := (h a).1 (by simp)
      have hb : b ∈ a :: l := (h b).2 (by simp)
      rcases List.mem_cons.1 ha with e | ha
      · exact e
      · rcases List.mem_cons.1 hb with e | hb
        · exact e.symm
        · have := h2'.1 a ha
          have := h1'.1 b hb
          omega
    subst hab
    rw [asc_ext l l' h1'.2 h2'.2 (fun x => ?_)]
    constructor
    · intro hx
      have := h1'.1 x hx
      rcases List.mem_cons.1 ((h x).1 (List.mem_cons_of_mem _ hx)) with e | e
      · omega
      · exact e
    · intro hx
      have := h2'.1 x hx
      rcases List.mem_cons.1 ((h x).2 (List.mem_cons_of_mem _ hx)) with e | e
      · omega
      · exact e

theorem asc_range (n : Nat) : Asc (List.range n) := List.pairwise_lt_range
theorem asc_filter {l : List Nat} (h : Asc l) (p : Nat → Bool) : Asc (l.filter p) := List.Pairwise.filter p h

/-- An ascending list of numbers below n is what it picks out of the range. -/
theorem asc_range_filter (l : List Nat) (n : Nat) (h : Asc l) (hn : ∀ x ∈ l, x < n) : (List.range n).filter (fun x => l.contains x) = l := by
  refine asc_ext _ _ (asc_filter (asc_range n) _) h (fun x => ?_)
  simp only [List.mem_filter, List.mem_range, List.contains_iff_mem]
  exact ⟨fun h => h.2, fun hx => ⟨hn x hx, hx⟩⟩

theorem filter_length_le (p q : Nat → Bool) (h : ∀ x, q x = true → p x = true) : ∀ l : List Nat, (l.filter q).length ≤ (l.filter p).length
  | [] => by simp
  | a :: l => by
    have ih := filter_length_le p q h l
    by_cases hq : q a = true
    · rw [List.filter_cons_of_pos hq, List.filter_cons_of_pos (h a hq)]; simpa using ih
    · by_cases hp : p a = true
      · rw [List.filter_cons_of_neg hq, List.filter_cons_of_pos hp, List.length_cons]; omega
      · rw [List.filter_cons_of_neg hq, List.filter_cons_of_neg hp]; exact ih
theorem filter_same_length (p q : Nat → Bool) (h : ∀ x, q x = true → p x = true) : ∀ l : List Nat, (l.filter p).length = (l.filter q).length → ∀ x ∈ l, p x = true → q x = true
  | [], _, x, hx, _ => by cases hx
  | a :: l, he, x, hx, hp => by
    have hle := filter_length_le p q h l
    by_cases hq : q a = true
    · rw [List.filter_cons_of_pos hq, List.filter_cons_of_pos (h a hq)] at he
      rcases List.mem_cons.1 hx with e | e
      · subst e; exact hq
      · exact filter_same_length p q h l (by simpa using he) x e hp
    · by_cases hpa : p a = true
      · rw [List.filter_cons_of_neg hq, List.filter_cons_of_pos hpa, List.length_cons] at he
        omega
      · rw [List.filter_cons_of_neg hq, List.filter_cons_of_neg hpa] at he
        rcases List.mem_cons.1 hx with e | e
        · subst e; exact absurd hp hpa
        · exact filter_same_length p q h l he x e hp

/-- what three of a list make, at rising places -/
def Made (f : Nat → Nat → Nat → Nat) (l : List Nat) (x : Nat) : Prop := ∃ i j k, k < j ∧ j < i ∧ i < l.length ∧ x = f (l.getD i 0) (l.getD j 0) (l.getD k 0)
instance (f : Nat → Nat → Nat → Nat) (l : List Nat) (x : Nat) : Decidable (Made f l x) :=
  decidable_of_iff (∃ i, i < l.length ∧ ∃ j, j < i ∧ ∃ k, k < j ∧ x = f (l.getD i 0) (l.getD j 0) (l.getD k 0))
    ⟨fun ⟨i, hi, j, hj, k, hk, e⟩ => ⟨i, j, k, hk, hj, hi, e⟩, fun ⟨i, j, k, hk, hj, hi, e⟩ => ⟨i, hi, j, hj, k, hk, e⟩⟩
/-- what any three of a list make -/
def Any3 (f : Nat → Nat → Nat → Nat) (l : List Nat) (x : Nat) : Prop := ∃ i j k, i < l.length ∧ j < l.length ∧ k < l.length ∧ x = f (l.getD i 0) (l.getD j 0) (l.getD k 0)
/-- the list and what three different ones of it make, ascending -/
def joined (f : Nat → Nat → Nat → Nat) (l : List Nat) : List Nat := (List.range 16).filter fun x => l.contains x || decide (Made f l x)

/-- What a join of three must be like. -/
structure Join (f : Nat → Nat → Nat → Nat) : Prop where
  lt : ∀ x y z, x < 16 → y < 16 → z < 16 → f x y z < 16
  s1 : ∀ x y z, f x y z = f y x z
  s2 : ∀ x y z, f x y z = f x z y
  id : ∀ x z, f x x z = x ∨ f x x z = z

theorem mem_getD {l : List Nat} {i : Nat} (hi : i < l.length) : l.getD i 0 ∈ l := by
  rw [List.getD_eq_getElem?_getD, List.getElem?_eq_getElem hi]; exact List.getElem_mem hi
theorem getD_of_mem {l : List Nat} {x : Nat} (h : x ∈ l) : ∃ i, i < l.length ∧ l.getD i 0 = x := by
  obtain ⟨i, hi, e⟩ := List.getElem_of_mem h
  exact ⟨i, hi, by rw [List.getD_eq_getElem?_getD, List.getElem?_eq_getElem hi]; exact e⟩

theorem made_iff_any {f : Nat → Nat → Nat → Nat} (J : Join f) (l : List Nat) (x : Nat) : (x ∈ l ∨ Made f l x) ↔ Any3 f l x := by
  obtain ⟨-, hs1, hs2, hid⟩ := J
  constructor
  · rintro (h | ⟨i, j, k, hk, hj, hi, rfl⟩)
    · obtain ⟨i, hi, rfl⟩ := getD_of_mem h
      refine ⟨i, i, i, hi, hi, hi, ?_⟩
      rcases hid (l.getD i 0) (l.getD i 0) with e | e <;> exact e.symm
    · exact ⟨i, j, k, hi, by omega, by omega, rfl⟩
  · rintro ⟨i, j, k, hi, hj, hk, rfl⟩
    by_cases h1 : i = j
    · subst h1; left; rcases hid (l.getD i 0) (l.getD k 0) with e | e <;> rw [e]
      · exact mem_getD hi
      · exact mem_getD hk
    · by_cases h2 : j = k
      · subst h2; left
        rw [hs1, hs2]
        rcases hid (l.getD j 0) (l.getD i 0) with e | e <;> rw [e]
        · exact mem_getD hj
        · exact mem_getD hi
      · by_cases h3 : i = k
        · subst h3; left
          rw [hs2]
          rcases hid (l.getD i 0) (l.getD j 0) with e | e <;> rw [e]
          · exact mem_getD hi
          · exact mem_getD hj
        · right
          rcases Nat.lt_or_gt_of_ne h1 with a | a <;> rcases Nat.lt_or_gt_of_ne h2 with b | b <;> rcases Nat.lt_or_gt_of_ne h3 with c | c
          · exact ⟨k, j, i, a, b, hk, by rw [hs2, hs1 (l.getD i 0), hs2]⟩
          · omega
          · exact ⟨j, k, i, c, b, hj, by rw [hs1, hs2]⟩
          · exact ⟨j, i, k, c, a, hj, by rw [hs1]⟩
          · exact ⟨k, i, j, a, c, hk, by rw [hs2, hs1 (l.getD i 0)]⟩
          · exact ⟨i, k, j, b, c, hi, by rw [hs2]⟩
          · omega
          · exact ⟨i, j, k, b, a, hi, rfl⟩

theorem mem_joined {f : Nat → Nat → Nat → Nat} (J : Join f) (l : List Nat) (hn : ∀ x ∈ l, x < 16) (x : Nat) : x ∈ joined f l ↔ Any3 f l x := by
  rw [← made_iff_any J]
  unfold joined
  simp only [List.mem_filter, List.mem_range, Bool.or_eq_true, List.contains_iff_mem, decide_eq_true_eq]
  refine ⟨fun h => h.2, fun h => ⟨?_, h⟩⟩
  obtain ⟨i, j, k, hi, hj, hk, rfl⟩ := (made_iff_any J l x).1 h
  exact J.lt _ _ _ (hn _ (mem_getD hi)) (hn _ (mem_getD hj)) (hn _ (mem_getD hk))
theorem joined_asc (f : Nat → Nat → Nat → Nat) (l : List Nat) : Asc (joined f l) := asc_filter (asc_range 16) _
theorem sub_joined (f : Nat → Nat → Nat → Nat) (l : List Nat) (hn : ∀ x ∈ l, x < 16) : ∀ x ∈ l, x ∈ joined f l := fun x hx => by
  unfold joined
  simp only [List.mem_filter, List.mem_range, Bool.or_eq_true, List.contains_iff_mem]
  exact ⟨hn x hx, .inl hx⟩

theorem joined_len_iff {f : Nat → Nat → Nat → Nat} (J : Join f) (l : List Nat) (h : Asc l) (hn : ∀ x ∈ l, x < 16) :
    (joined f l).length = l.length ↔ ∀ x, Any3 f l x → x ∈ l := by
  have hl := asc_range_filter l 16 h hn
  constructor
  · intro he x hx
    have hm := (mem_joined J l hn x).2 hx
    have hx16 : x < 16 := List.mem_range.1 (List.mem_filter.1 hm).1
    have h2 := filter_same_length (fun x => l.contains x || decide (Made f l x)) (fun x => l.contains x) (fun x (hx : l.contains x = true) => show (l.contains x || decide (Made f l x)) = true by rw [hx]; rfl) (List.range 16)
      (by rw [hl]; exact he) x (List.mem_range.2 hx16) (List.mem_filter.1 hm).2
    exact List.contains_iff_mem.1 h2
  · intro hc
    rw [asc_ext (joined f l) l (joined_asc f l) h (fun x => ⟨fun hx => hc x ((mem_joined J l hn x).1 hx), sub_joined f l hn x⟩)]

def med (x y z : Nat) : Nat := x &&& y ||| x &&& z ||| y &&& z
def par (x y z : Nat) : Nat := x ^^^ y ^^^ z
theorem join_med : Join med where
  lt := fun _ _ _ _ hy hz => Nat.or_lt_two_pow (n := 4) (Nat.or_lt_two_pow (n := 4) (Nat.and_lt_two_pow _ hy) (Nat.and_lt_two_pow _ hz)) (Nat.and_lt_two_pow _ hz)
  s1 := fun x y z => by unfold med; rw [Nat.and_comm x y, Nat.or_assoc, Nat.or_comm (x &&& z), Nat.or_assoc]
  s2 := fun x y z => by unfold med; rw [Nat.or_comm (x &&& y), Nat.and_comm y z]
  id := fun x z => by
    left
    unfold med
    apply Nat.eq_of_testBit_eq
    intro i
    simp only [Nat.testBit_or, Nat.testBit_and]
    cases x.testBit i <;> cases z.testBit i <;> rfl
theorem join_par : Join par where
  lt := fun _ _ _ hx hy hz => Nat.xor_lt_two_pow (n := 4) (Nat.xor_lt_two_pow (n := 4) hx hy) hz
  s1 := fun x y z => by unfold par; rw [Nat.xor_comm x y]
  s2 := fun x y z => by unfold par; rw [Nat.xor_assoc, Nat.xor_comm y z, Nat.xor_assoc]
  id := fun x z => by right; unfold par; simp

/-- how many answers are 1 -/
def wt (x : Nat) : Nat := x % 2 + x / 2 % 2 + x / 4 % 2 + x / 8 % 2
theorem wt_step (x : Nat) (h : x < 16) : wt x = x % 2 + wt (x / 2) := by unfold wt; omega
theorem wt_zero : wt 0 = 0 := rfl
theorem wt_le (x : Nat) : wt x ≤ 4 := by unfold wt; omega
end Go.Proofs.YtgebplpbnaeckaaGreatDoor

/- Base: Contracts of the small functions of the model and of the laws' helpers that every statement of this seat goes through. -/
namespace Go.Proofs.YtgebplpbnaeckaaGreatDoor
open Go.RowKit

/-- 2 to a number. -/
def pw (n : Int) : Int := ((2 ^ n.toNat : Nat) : Int)
theorem pw_pos (n : Int) : 1 ≤ pw n := by
  unfold pw
  have : 0 < 2 ^ n.toNat := Nat.two_pow_pos _
  omega
theorem pw_le (n : Int) (h : n ≤ 4) : pw n ≤ 16 := by
  unfold pw
  have h1 : n.toNat ≤ 4 := by omega
  have : 2 ^ n.toNat ≤ 2 ^ 4 := Nat.pow_le_pow_right (by omega) h1
  omega
theorem pw_le6 (n : Int) (h : n ≤ 6) : pw n ≤ 64 := by
  unfold pw
  have h1 : n.toNat ≤ 6 := by omega
  have : 2 ^ n.toNat ≤ 2 ^ 6 := Nat.pow_le_pow_right (by omega) h1
  omega
theorem pw_succ (n : Int) (h : 0 ≤ n) : pw (n + 1) = 2 * pw n := by
  unfold pw
  have : (n + 1).toNat = n.toNat + 1 := by omega
  rw [this, Nat.pow_succ]; omega
theorem pw_zero : pw 0 = 1 := rfl

/-- A valid space: its issues, and its judgments, ascending. -/
def Valid (n : Int) (zs : List Int) : Prop :=
  (1 ≤ n ∧ n ≤ 4) ∧ 0 < zs.length ∧ ∀ i, i < zs.length → (0 ≤ zs.getD i 0 ∧ zs.getD i 0 ≤ pw n - 1) ∧ (0 < i → zs.getD (i - 1) 0 < zs.getD i 0)
instance (n : Int) (zs : List Int) : Decidable (Valid n zs) := by unfold Valid; infer_instance
def vsB (n : Int) (zs : List Int) : Bool := decide (Valid n zs)
theorem vsB_true {n : Int} {zs : List Int} (h : Valid n zs) : vsB n zs = true := by simpa [vsB] using h
theorem vsB_false {n : Int} {zs : List Int} (h : ¬ Valid n zs) : vsB n zs = false := by simpa [vsB] using h

theorem inRange_any (n l h : Int) (w : World) : Calls Tryz.prog 30 #[.int .i64 n, .int .i64 l, .int .i64 h] w fun e w' => e = .returned (.bool (decide (l ≤ n ∧ n ≤ h))) ∧ w = w' := by
  by_cases h1 : l ≤ n <;> by_cases h2 : n ≤ h
  all_goals
    go_enter Tryz.func30, Tryz.ntmps30
    go_wp2
    go_ret
    exact ⟨ret_bool (by simp [h1, h2]), rfl⟩

theorem power_any (n : Int) (w : World) (h0 : 0 ≤ n) (h4 : n ≤ 6) : Calls Tryz.prog 45 #[.int .i64 n] w fun e w' => e = .returned (.int .i64 (pw n)) ∧ w = w' := by
  go_enter Tryz.func45, Tryz.ntmps45
  go_wp2
  go_loop [0, 3] (fun i o => ∃ k : Int, 0 ≤ k ∧ k ≤ n ∧ i = .int .i64 k ∧ o = .int .i64 (pw (n - k))) (fun i _ => (intOf i).toNat)
  case atStart => exact ⟨n, h0, Int.le_refl _, rfl, by rw [Int.sub_self]; rfl⟩
  case round =>
    obtain ⟨k, hk0, hkn, rfl, rfl⟩ := hrel
    have b1 := pw_pos (n - k)
    have b2 := pw_le6 (n - k) (by omega)
    by_cases hlt : 0 < k
    · go_wp2
      go_round
      case rel => exact ⟨k - 1, by omega, by omega, by go_num, by rw [show n - (k - 1) = (n - k) + 1 from by omega, pw_succ _ (by omega)]⟩
      case measure => simp [intOf]; omega
    · obtain rfl : k = 0 := by omega
      go_wp2
      go_ret
      exact ⟨rfl, rfl⟩
end Go.Proofs.YtgebplpbnaeckaaGreatDoor

/- Laws: Contracts of the laws' own helpers: sizes, copies, equality, marks. -/
namespace Go.Proofs.YtgebplpbnaeckaaGreatDoor
open Go.RowKit Go.Joins

theorem info_int : (Tryz.prog.info? 3).map (fun i => (i.zero, i.size, i.bytes)) = some (some (.int .i64 0), 1, 8) := by kernel_rfl

/-- What is left of a purse behind so many values; -1 if they do not fit. -/
def left (l : Int) (n : Nat) : Int := if l < n then -1 else l - n


theorem getD_lt {zs : List Int} {k : Nat} (h : k < zs.length) : zs.getD k 0 = zs[k] := by simp [List.getD_eq_getElem?_getD, h]

theorem ints_ext {xs ys : List Int} (hl : xs.length = ys.length) (h : ∀ j, j < xs.length → xs.getD j 0 = ys.getD j 0) : xs = ys := by
  refine List.ext_getElem hl fun i h1 h2 => ?_
  have := h i h1
  rwa [getD_lt h1, getD_lt h2] at this

theorem set_take {ys zs : List Int} {k : Nat} (hk : k < zs.length) (hl : ys.length = zs.length) (h : ys.take k = zs.take k) : (ys.set k (zs.getD k 0)).take (k + 1) = zs.take (k + 1) := by
  rw [List.take_add_one, List.take_add_one, List.take_set_of_le (Nat.le_refl _), h, List.getElem?_set_self (by omega), List.getElem?_eq_getElem hk]
  simp [List.getD_eq_getElem?_getD, hk]

theorem madeInts (n : Nat) : (madeCells #[Value.int .i64 0] n).toList = (List.replicate n (0 : Int)).map (Value.int .i64) := by
  rw [toList_madeCells_one, List.map_replicate]






end Go.Proofs.YtgebplpbnaeckaaGreatDoor
