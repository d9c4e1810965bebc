/- Closed facts of the program: which method a score's value has, and what it is asserted to be. -/
import Derived.Test.YtkefflidoepfgaaSco
namespace Go.Proofs.Ytkefflidoepfgaa
open Go.RowKit

/-- the type of a score's value -/
def kindT (q : Nat) : TypeId :=
  if q = 0 then 78 else if q = 1 then 74 else if q = 2 then 79 else 80
theorem nilA0 (w : World) : (nilAhead 213 78 (.agg #[]) "loop.example/jointjudgments/impl.worthOf").run Try.prog w = .ok (some false) w := by kernel_rfl
theorem nilA1 (w : World) : (nilAhead 213 74 (.agg #[]) "loop.example/jointjudgments/impl.worthOf").run Try.prog w = .ok (some false) w := by kernel_rfl
theorem nilA2 (w : World) : (nilAhead 213 79 (.agg #[]) "loop.example/jointjudgments/impl.worthOf").run Try.prog w = .ok (some false) w := by kernel_rfl
theorem nilA3 (w : World) : (nilAhead 213 80 (.agg #[]) "loop.example/jointjudgments/impl.worthOf").run Try.prog w = .ok (some false) w := by kernel_rfl
theorem meth0 (w : World) : (method 213 78 (.agg #[]) "loop.example/jointjudgments/impl.worthOf").run Try.prog w = .ok (117, .agg #[]) w := by kernel_rfl
theorem meth1 (w : World) : (method 213 74 (.agg #[]) "loop.example/jointjudgments/impl.worthOf").run Try.prog w = .ok (116, .agg #[]) w := by kernel_rfl
theorem meth2 (w : World) : (method 213 79 (.agg #[]) "loop.example/jointjudgments/impl.worthOf").run Try.prog w = .ok (118, .agg #[]) w := by kernel_rfl
theorem meth3 (w : World) : (method 213 80 (.agg #[]) "loop.example/jointjudgments/impl.worthOf").run Try.prog w = .ok (119, .agg #[]) w := by kernel_rfl
theorem isL0 (w : World) : (Instr.typeAssert (.iface 78 (.agg #[])) 51 80 true).run Try.prog w = .ok (.tuple #[.agg #[], .bool false]) w := by kernel_rfl
theorem isL1 (w : World) : (Instr.typeAssert (.iface 74 (.agg #[])) 51 80 true).run Try.prog w = .ok (.tuple #[.agg #[], .bool false]) w := by kernel_rfl
theorem isL2 (w : World) : (Instr.typeAssert (.iface 79 (.agg #[])) 51 80 true).run Try.prog w = .ok (.tuple #[.agg #[], .bool false]) w := by kernel_rfl
theorem isL3 (w : World) : (Instr.typeAssert (.iface 80 (.agg #[])) 51 80 true).run Try.prog w = .ok (.tuple #[.agg #[], .bool true]) w := by kernel_rfl
end Go.Proofs.Ytkefflidoepfgaa
