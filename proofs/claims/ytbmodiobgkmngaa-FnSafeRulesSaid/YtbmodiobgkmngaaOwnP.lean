/- A slice of parts that a call has made. -/
import Derived.Test.YtbmodiobgkmngaaPairs
namespace Go.Proofs.Ytbmodiobgkmngaa
open Go.RowKit Go.Joins

/-- the cells of parts -/
def pflat (ps : List (Int × Int)) : List Value := ps.flatMap fun p => [.int .i64 p.1, .int .i64 p.2]
theorem pflat_cons (p : Int × Int) (ps : List (Int × Int)) : pflat (p :: ps) = .int .i64 p.1 :: .int .i64 p.2 :: pflat ps := rfl
theorem pflat_len : ∀ ps : List (Int × Int), (pflat ps).length = ps.length * 2
  | [] => rfl
  | p :: ps => by rw [pflat_cons, List.length_cons, List.length_cons, pflat_len ps, List.length_cons]; omega
theorem pflat_snoc (ps : List (Int × Int)) (c b : Int) : pflat (ps ++ [(c, b)]) = pflat ps ++ [.int .i64 c, .int .i64 b] := by
  unfold pflat
  rw [List.flatMap_append]
  rfl
theorem pflat_get : ∀ (ps : List (Int × Int)) (k : Nat), k < ps.length → (pflat ps)[k * 2]? = some (.int .i64 (ps.getD k (0, 0)).1) ∧ (pflat ps)[k * 2 + 1]? = some (.int .i64 (ps.getD k (0, 0)).2)
  | [], k, h => by simp at h
  | p :: ps, 0, _ => ⟨rfl, rfl⟩
  | p :: ps, k + 1, h => by
    have := pflat_get ps k (by simpa using h)
    rw [pflat_cons, show (k + 1) * 2 = k * 2 + 1 + 1 from by omega]
    simpa using this
/-- v is a slice of parts that a call has made -/
def OwnsP (w : World) (base : Nat) (v : Value) (ps : List (Int × Int)) : Prop := w.ownsRow base 79 2 v ps.length (pflat ps)
theorem OwnsP.form {w : World} {base : Nat} {v : Value} {ps : List (Int × Int)} (h : OwnsP w base v ps) : ∃ a cap, v = .slice a ps.length cap ∧ PInts w a ps := by
  have h' : w.ownsRow base 79 2 v ps.length (pflat ps) := h
  rcases ownsRow_forms h' with ⟨rfl, h0⟩ | ⟨g, cap, rfl⟩
  · exact ⟨none, 0, by rw [h0], fun hz => by omega⟩
  · have hl := h'.lt g rfl
    refine ⟨_, cap, rfl, fun hz => ⟨g, 0, rfl, hl.2, fun k hk => ?_⟩⟩
    obtain ⟨e1, e2⟩ := pflat_get ps k hk
    rw [Nat.zero_add, h'.cellAt (k * 2) (by omega), h'.cellAt (k * 2 + 1) (by omega)]
    exact ⟨e1, e2⟩
theorem OwnsP.other {w w' : World} {base : Nat} {v : Value} {ps : List (Int × Int)} {row : Option Nat} (h : OwnsP w base v ps) (hg : w.grownBy w' row) (hne : ∀ g, row = some g → g < base) : OwnsP w' base v ps := by
  have h' : w.ownsRow base 79 2 v ps.length (pflat ps) := h
  refine World.ownsRow.kept h' hg ?_
  rcases hv : v.ownBlock with _ | g
  · exact .inl rfl
  · right
    intro e
    have h1 := (h'.lt g hv).1
    have h2 := hne g e.symm
    omega
theorem OwnsP.below {w w' : World} {base : Nat} {v : Value} {ps : List (Int × Int)} (h : OwnsP w base v ps) (hb : Below w.heap.size w w') : OwnsP w' base v ps :=
  h.other (row := none) ⟨hb.os, hb.tape, hb.output, hb.size, fun k hk _ => hb.block k hk⟩ (fun g e => by cases e)
theorem OwnsP.push {w : World} {base : Nat} {v : Value} {ps : List (Int × Int)} {c b : Int} (h : w.ownsRow base 79 2 v (ps.length + 1) (pflat ps ++ [.int .i64 c, .int .i64 b])) : OwnsP w base v (ps ++ [(c, b)]) := by
  unfold OwnsP
  rw [pflat_snoc, List.length_append]
  exact h
theorem OwnsP.empty (w : World) {base : Nat} (hb : base ≤ w.heap.size) : OwnsP (w.alloc (.cells #[] 79)) base (.slice (some ⟨w.heap.size, 0, none⟩) 0 0) [] :=
  ⟨rfl, .inr ⟨w.heap.size, 0, #[], rfl, hb, heap_alloc_new w _, Nat.le_refl _, by unfold maxLen; omega, rfl, rfl⟩⟩
theorem info_part : (Try.prog.info? 79).map (fun i => (i.zero, i.size, i.bytes)) = some (some (.agg #[.int .i64 0, .int .i64 0]), 2, 16) := by kernel_rfl
end Go.Proofs.Ytbmodiobgkmngaa
