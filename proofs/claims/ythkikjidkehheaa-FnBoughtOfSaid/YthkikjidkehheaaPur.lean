/- Slices of purses: what a number is over, the number below it, a ballot. The small functions on them. -/
import Derived.Test.YthkikjidkehheaaApart
import Derived.Test.YthkikjidkehheaaApp
import Derived.Deep.RegionWith
namespace Go.Proofs.Ythkikjidkehheaa
open Go.RowKit Go.Joins

abbrev Pur := Int × Int × Int
/-- the cells of purses -/
def qflat (ps : List Pur) : List Value := ps.flatMap fun p => [.int .i64 p.1, .int .i64 p.2.1, .int .i64 p.2.2]
theorem qflat_cons (p : Pur) (ps : List Pur) : qflat (p :: ps) = .int .i64 p.1 :: .int .i64 p.2.1 :: .int .i64 p.2.2 :: qflat ps := rfl
theorem qflat_len : ∀ ps : List Pur, (qflat ps).length = ps.length * 3
  | [] => rfl
  | p :: ps => by rw [qflat_cons, List.length_cons, List.length_cons, List.length_cons, qflat_len ps, List.length_cons]; omega
theorem qflat_snoc (ps : List Pur) (p : Pur) : qflat (ps ++ [p]) = qflat ps ++ [.int .i64 p.1, .int .i64 p.2.1, .int .i64 p.2.2] := by
  unfold qflat
  rw [List.flatMap_append]
  rfl
theorem qflat_get : ∀ (ps : List Pur) (k : Nat), k < ps.length → (qflat ps)[k * 3]? = some (.int .i64 (ps.getD k (0, 0, 0)).1) ∧ (qflat ps)[k * 3 + 1]? = some (.int .i64 (ps.getD k (0, 0, 0)).2.1) ∧ (qflat ps)[k * 3 + 2]? = some (.int .i64 (ps.getD k (0, 0, 0)).2.2)
  | [], k, h => by simp at h
  | p :: ps, 0, _ => ⟨rfl, rfl, rfl⟩
  | p :: ps, k + 1, h => by
    have := qflat_get ps k (by simpa using h)
    rw [qflat_cons, show (k + 1) * 3 = k * 3 + 1 + 1 + 1 from by omega]
    simpa using this
theorem qflat_set1 : ∀ (ps : List Pur) (k : Nat) (x : Int), k < ps.length → (qflat ps).set (k * 3) (.int .i64 x) = qflat (ps.set k (x, (ps.getD k (0, 0, 0)).2))
  | [], k, x, h => by simp at h
  | p :: ps, 0, x, _ => rfl
  | p :: ps, k + 1, x, h => by
    have := qflat_set1 ps k x (by simpa using h)
    rw [qflat_cons, show (k + 1) * 3 = k * 3 + 1 + 1 + 1 from by omega, List.set_cons_succ, List.set_cons_succ, List.set_cons_succ, this]
    rfl
theorem qflat_set2 : ∀ (ps : List Pur) (k : Nat) (x : Int), k < ps.length → (qflat ps).set (k * 3 + 1) (.int .i64 x) = qflat (ps.set k ((ps.getD k (0, 0, 0)).1, x, (ps.getD k (0, 0, 0)).2.2))
  | [], k, x, h => by simp at h
  | p :: ps, 0, x, _ => rfl
  | p :: ps, k + 1, x, h => by
    have := qflat_set2 ps k x (by simpa using h)
    rw [qflat_cons, show (k + 1) * 3 + 1 = k * 3 + 1 + 1 + 1 + 1 from by omega, List.set_cons_succ, List.set_cons_succ, List.set_cons_succ, this]
    rfl
theorem qflat_set3 : ∀ (ps : List Pur) (k : Nat) (x : Int), k < ps.length → (qflat ps).set (k * 3 + 2) (.int .i64 x) = qflat (ps.set k ((ps.getD k (0, 0, 0)).1, (ps.getD k (0, 0, 0)).2.1, x))
  | [], k, x, h => by simp at h
  | p :: ps, 0, x, _ => rfl
  | p :: ps, k + 1, x, h => by
    have := qflat_set3 ps k x (by simpa using h)
    rw [qflat_cons, show (k + 1) * 3 + 2 = k * 3 + 2 + 1 + 1 + 1 from by omega, List.set_cons_succ, List.set_cons_succ, List.set_cons_succ, this]
    rfl
theorem qgetD_lt {ps : List Pur} {k : Nat} (h : k < ps.length) : ps.getD k (0, 0, 0) = ps[k] := by simp [List.getD_eq_getElem?_getD, h]
/-- A slice value whose address is a reads as the purses ps. -/
def QInts (w : World) (a : Option Addr) (ps : List Pur) : Prop :=
  0 < ps.length → ∃ b off, a = some ⟨b, off, none⟩ ∧ b < w.heap.size ∧ ∀ k, k < ps.length → w.cell? ⟨b, off + k * 3, none⟩ = some (.int .i64 (ps.getD k (0, 0, 0)).1) ∧ w.cell? ⟨b, off + k * 3 + 1, none⟩ = some (.int .i64 (ps.getD k (0, 0, 0)).2.1) ∧ w.cell? ⟨b, off + k * 3 + 2, none⟩ = some (.int .i64 (ps.getD k (0, 0, 0)).2.2)
theorem QInts.below {w w' : World} {a : Option Addr} {ps : List Pur} (h : QInts w a ps) (hb : Below w.heap.size w w') : QInts w' a ps := fun hz => by
  obtain ⟨b, off, e, hlt, hc⟩ := h hz
  exact ⟨b, off, e, Nat.lt_of_lt_of_le hlt hb.size, fun k hk => ⟨(hb.cell (p := ⟨b, off + k * 3, none⟩) hlt).trans (hc k hk).1, (hb.cell (p := ⟨b, off + k * 3 + 1, none⟩) hlt).trans (hc k hk).2.1, (hb.cell (p := ⟨b, off + k * 3 + 2, none⟩) hlt).trans (hc k hk).2.2⟩⟩
/-- v is a slice of purses that a call has made -/
def OwnsQ (w : World) (base : Nat) (v : Value) (ps : List Pur) : Prop := w.ownsRow base 47 3 v ps.length (qflat ps)
theorem OwnsQ.form {w : World} {base : Nat} {v : Value} {ps : List Pur} (h : OwnsQ w base v ps) : ∃ a cap, v = .slice a ps.length cap ∧ QInts w a ps := by
  have h' : w.ownsRow base 47 3 v ps.length (qflat ps) := h
  rcases ownsRow_forms h' with ⟨rfl, h0⟩ | ⟨g, cap, rfl⟩
  · exact ⟨none, 0, by rw [h0], fun hz => by omega⟩
  · have hl := h'.lt g rfl
    refine ⟨_, cap, rfl, fun hz => ⟨g, 0, rfl, hl.2, fun k hk => ?_⟩⟩
    obtain ⟨e1, e2, e3⟩ := qflat_get ps k hk
    rw [Nat.zero_add, h'.cellAt (k * 3) (by omega), h'.cellAt (k * 3 + 1) (by omega), h'.cellAt (k * 3 + 2) (by omega)]
    exact ⟨e1, e2, e3⟩
theorem OwnsQ.qints {w : World} {base n cap : Nat} {a : Option Addr} {ps : List Pur} (h : OwnsQ w base (.slice a n cap) ps) : QInts w a ps := by
  obtain ⟨a', cap', e, hi⟩ := h.form
  simp only [Value.slice.injEq] at e
  obtain ⟨rfl, _, _⟩ := e
  exact hi
theorem qown_kept {w w' : World} {base : Nat} {v : Value} {ps : List Pur} {row : Option Nat} (h : OwnsQ w base v ps) (hg : w.grownBy w' row) (hne : ∀ k, row = some k → v.ownBlock ≠ some k) : OwnsQ w' base v ps := by
  have h' : w.ownsRow base 47 3 v ps.length (qflat ps) := h
  refine World.ownsRow.kept h' hg ?_
  rcases hv : v.ownBlock with _ | g
  · exact .inl rfl
  · right
    intro e
    exact hne g e.symm hv
theorem OwnsQ.below {w w' : World} {base : Nat} {v : Value} {ps : List Pur} (h : OwnsQ w base v ps) (hb : Below w.heap.size w w') : OwnsQ w' base v ps :=
  qown_kept h (row := none) ⟨hb.os, hb.tape, hb.output, hb.size, fun k hk _ => hb.block k hk⟩ (fun k e => by cases e)
theorem OwnsQ.le {w : World} {base base' : Nat} {v : Value} {ps : List Pur} (h : OwnsQ w base v ps) (hb : base' ≤ base) : OwnsQ w base' v ps := ownsRow_le h hb
theorem OwnsQ.push {w : World} {base : Nat} {v : Value} {ps : List Pur} {p : Pur} (h : w.ownsRow base 47 3 v (ps.length + 1) (qflat ps ++ [.int .i64 p.1, .int .i64 p.2.1, .int .i64 p.2.2])) : OwnsQ w base v (ps ++ [p]) := by
  unfold OwnsQ
  rw [qflat_snoc, List.length_append]
  exact h
theorem info_purse : (Try.prog.info? 47).map (fun i => (i.zero, i.size, i.bytes)) = some (some (.agg #[.int .i64 0, .int .i64 0, .int .i64 0]), 3, 24) := by kernel_rfl
theorem qgetD_set {ps : List Pur} {k : Nat} {p : Pur} (h : k < ps.length) : (ps.set k p).getD k (0, 0, 0) = p := by simp [List.getD_eq_getElem?_getD, h]
/-- all three cells of a purse of a row written -/
theorem qset3 {w : World} {base g n cap k : Nat} {ps : List Pur} (h : w.ownsRow base 47 3 (.slice (some ⟨g, 0, none⟩) n cap) n (qflat ps)) (hk : k < ps.length) (x y z : Int) :
    (((w.setCell ⟨g, k * 3, none⟩ (.int .i64 x)).setCell ⟨g, k * 3 + 1, none⟩ (.int .i64 y)).setCell ⟨g, k * 3 + 2, none⟩ (.int .i64 z)).ownsRow base 47 3 (.slice (some ⟨g, 0, none⟩) n cap) n (qflat (ps.set k (x, y, z))) := by
  have h1 := (h.stored (k * 3) (.int .i64 x)).1
  rw [qflat_set1 ps k x hk] at h1
  have h2 := (h1.stored (k * 3 + 1) (.int .i64 y)).1
  rw [qflat_set2 _ k y (by rw [List.length_set]; exact hk), List.set_set, qgetD_set hk] at h2
  have h3 := (h2.stored (k * 3 + 2) (.int .i64 z)).1
  rw [qflat_set3 _ k z (by rw [List.length_set]; exact hk), List.set_set, qgetD_set hk] at h3
  exact h3
theorem bset3 {B : Nat} {w w' : World} {g a b c : Nat} (h : Below B w w') (hg : B ≤ g) (x y z : Value) : Below B w (((w'.setCell ⟨g, a, none⟩ x).setCell ⟨g, b, none⟩ y).setCell ⟨g, c, none⟩ z) :=
  ((h.setCell (p := ⟨g, a, none⟩) hg x).setCell (p := ⟨g, b, none⟩) hg y).setCell (p := ⟨g, c, none⟩) hg z
/-- the purse's ballot approves of a name -/
def apQ (x : Nat) (p : Pur) : Bool := decide (bitN p.2.2.toNat x = 1)
/-- a purse in a variable of its own -/
def QBox (w : World) (g : Nat) (p : Pur) : Prop := g < w.heap.size ∧ w.cell? ⟨g, 0, none⟩ = some (.int .i64 p.1) ∧ w.cell? ⟨g, 1, none⟩ = some (.int .i64 p.2.1) ∧ w.cell? ⟨g, 2, none⟩ = some (.int .i64 p.2.2)
theorem QBox.new (w : World) (p : Pur) (t : TypeId) : QBox (w.alloc (.cells #[.int .i64 p.1, .int .i64 p.2.1, .int .i64 p.2.2] t)) w.heap.size p := ⟨by simp, by simp [go_sem], by simp [go_sem], by simp [go_sem]⟩
theorem QBox.below {w w' : World} {g : Nat} {p : Pur} (h : QBox w g p) (hb : Below w.heap.size w w') : QBox w' g p :=
  ⟨Nat.lt_of_lt_of_le h.1 hb.size, (hb.cell (p := ⟨g, 0, none⟩) h.1).trans h.2.1, (hb.cell (p := ⟨g, 1, none⟩) h.1).trans h.2.2.1, (hb.cell (p := ⟨g, 2, none⟩) h.1).trans h.2.2.2⟩
theorem approves_any (x y z : Int) (j : Nat) (w : World) (hz : 0 ≤ z ∧ z ≤ 31) (hj : j ≤ 5) :
    Calls Try.prog 57 #[.agg #[.int .i64 x, .int .i64 y, .int .i64 z], .int .i64 j] w fun e w' => e = .returned (.bool (apQ j (x, y, z))) ∧ Below w.heap.size w w' := by
  have hb := shr_bit z j hz hj
  have hb1 := bitN_le z.toNat j
  have HA := hide (show apQ j (x, y, z) = decide (bitN z.toNat j = 1) from rfl)
  obtain ⟨u, hu⟩ : ∃ u, u = bitN z.toNat j := ⟨_, rfl⟩
  rw [← hu] at hb hb1 HA
  clear hu
  go_enter Try.func57, Try.ntmps57
  rcases (show u = 0 ∨ u = 1 by omega) with rfl | rfl
  all_goals
    go_wp2
    go_ret
    exact ⟨by rw [HA.out]; rfl, bel1 w _⟩
end Go.Proofs.Ythkikjidkehheaa
