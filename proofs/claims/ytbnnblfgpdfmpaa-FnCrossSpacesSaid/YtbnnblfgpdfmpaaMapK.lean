/- A part as a map's key. -/
import Derived.Test.YtbnnblfgpdfmpaaMapB
import Derived.DeepKeys4
import Derived.Maps.Keyed
namespace Go.Proofs.Ytbnnblfgpdfmpaa
open Go

/-- how a part stands as a key -/
def litP (c b : Int) : Lit := .string (keyBytes [.int .i64 c, .int .i64 b])
theorem part_cells : Try.prog.cellsOf 60 = 2 := by kernel_rfl
theorem int_cells : Try.prog.cellsOf 3 = 1 := by kernel_rfl
theorem part_keyType : Try.prog.keyType 60 = true := by kernel_rfl
set_option maxRecDepth 20000 in
theorem part_key (c b : Int) (hc : (Lit.int .i64 c).wf = true) (hb : (Lit.int .i64 b).wf = true) : keyOf Try.prog 60 (.agg #[.int .i64 c, .int .i64 b]) = some (litP c b) := by
  unfold keyOf
  rw [Try.underlying60]
  simp only [part_keyType, Bool.true_and]
  have hf : (Value.agg #[.int .i64 c, .int .i64 b]).formed Try.prog 60 = true := by simp [Value.formed, Try.underlying60, part_cells]
  rw [if_pos hf]
  have hl : Try.prog.keyLits (Try.prog.types.size + 1) 60 (Value.agg #[.int .i64 c, .int .i64 b]).cells.toList = some [.int .i64 c, .int .i64 b] := by
    have h0 : 0 < Try.prog.types.size := of_decide_eq_true (by kernel_rfl)
    obtain ⟨d, hd⟩ : ∃ d, Try.prog.types.size = d + 1 := ⟨Try.prog.types.size - 1, by omega⟩
    have hk : ∀ x : Int, (Lit.int .i64 x).wf = true → Try.prog.keyLits (d + 1) 3 [.int .i64 x] = some [.int .i64 x] := fun x hx => by
      unfold Program.keyLits
      rw [Try.underlying3]
      simp only [hx, and_self, if_true]
    rw [hd]
    unfold Program.keyLits
    rw [Try.underlying60]
    have e : (Value.agg #[.int .i64 c, .int .i64 b]).cells.toList = [.int .i64 c, .int .i64 b] := rfl
    rw [e]
    simp [part_cells, int_cells, List.mapM_cons, hk c hc, hk b hb]
  rw [hl]
  rfl
end Go.Proofs.Ytbnnblfgpdfmpaa
