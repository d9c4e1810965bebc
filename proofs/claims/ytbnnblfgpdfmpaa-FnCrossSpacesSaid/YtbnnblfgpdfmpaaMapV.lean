/- A key of a map from parts is a part. -/
import Derived.Test.YtbnnblfgpdfmpaaMapK
namespace Go.Proofs.Ytbnnblfgpdfmpaa
open Go

set_option maxRecDepth 20000 in
theorem int_lits_inv {d : Nat} {x : Value} {l : List Lit} (h : Try.prog.keyLits (d + 1) 3 [x] = some l) : ∃ n : Int, x = .int .i64 n ∧ (Lit.int .i64 n).wf = true ∧ l = [.int .i64 n] := by
  unfold Program.keyLits at h
  rw [Try.underlying3] at h
  cases x with
  | int q n =>
    simp only at h
    split at h
    · rename_i hc
      obtain ⟨rfl, hw⟩ := hc
      cases h
      exact ⟨n, rfl, hw, rfl⟩
    · cases h
  | _ => simp at h
set_option maxRecDepth 20000 in
theorem part_key_inv {key : Value} {kl : Lit} (h : keyOf Try.prog 60 key = some kl) : ∃ c b : Int, key = .agg #[.int .i64 c, .int .i64 b] ∧ (Lit.int .i64 c).wf = true ∧ (Lit.int .i64 b).wf = true ∧ kl = litP c b := by
  unfold keyOf at h
  rw [Try.underlying60] at h
  simp only [part_keyType, Bool.true_and] at h
  by_cases hf : key.formed Try.prog 60 = true
  · rw [if_pos hf] at h
    have hs : ∃ x y, key = .agg #[x, y] := by
      cases key <;> simp [Value.formed, Try.underlying60, part_cells] at hf
      rename_i cs
      obtain ⟨l⟩ := cs
      match l, hf with
      | [x, y], _ => exact ⟨x, y, rfl⟩
    obtain ⟨x, y, rfl⟩ := hs
    have h0 : 0 < Try.prog.types.size := of_decide_eq_true (by kernel_rfl)
    obtain ⟨d, hd⟩ : ∃ d, Try.prog.types.size = d + 1 := ⟨Try.prog.types.size - 1, by omega⟩
    have e : (Value.agg #[x, y]).cells.toList = [x, y] := rfl
    rw [hd, e] at h
    unfold Program.keyLits at h
    rw [Try.underlying60] at h
    cases hx : Try.prog.keyLits (d + 1) 3 [x] with
    | none => simp [part_cells, int_cells, List.mapM_cons, hx] at h
    | some l1 =>
      cases hy : Try.prog.keyLits (d + 1) 3 [y] with
      | none => simp [part_cells, int_cells, List.mapM_cons, hx, hy] at h
      | some l2 =>
        simp [part_cells, int_cells, List.mapM_cons, hx, hy] at h
        obtain ⟨c, rfl, wc, rfl⟩ := int_lits_inv hx
        obtain ⟨b, rfl, wb, rfl⟩ := int_lits_inv hy
        exact ⟨c, b, rfl, wc, wb, h.symm⟩
  · rw [if_neg hf] at h
    cases h
end Go.Proofs.Ytbnnblfgpdfmpaa
