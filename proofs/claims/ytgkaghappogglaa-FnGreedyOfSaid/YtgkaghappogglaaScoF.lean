/- Closed facts of the program: which method a score's value has, and what it is asserted to be. -/
import Derived.Test.YtgkaghappogglaaSco
namespace Go.Proofs.Ytgkaghappogglaa
open Go.RowKit

/-- the type of a score's value -/
def kindT (q : Nat) : TypeId :=
  if q = 0 then 100 else if q = 1 then 94 else if q = 2 then 101 else 102
theorem nilA0 (w : World) : (nilAhead 234 100 (.agg #[]) "loop.example/jointjudgments/impl.worthOf").run Try.prog w = .ok (some false) w := by kernel_rfl
theorem nilA1 (w : World) : (nilAhead 234 94 (.agg #[]) "loop.example/jointjudgments/impl.worthOf").run Try.prog w = .ok (some false) w := by kernel_rfl
theorem nilA2 (w : World) : (nilAhead 234 101 (.agg #[]) "loop.example/jointjudgments/impl.worthOf").run Try.prog w = .ok (some false) w := by kernel_rfl
theorem nilA3 (w : World) : (nilAhead 234 102 (.agg #[]) "loop.example/jointjudgments/impl.worthOf").run Try.prog w = .ok (some false) w := by kernel_rfl
theorem meth0 (w : World) : (method 234 100 (.agg #[]) "loop.example/jointjudgments/impl.worthOf").run Try.prog w = .ok (140, .agg #[]) w := by kernel_rfl
theorem meth1 (w : World) : (method 234 94 (.agg #[]) "loop.example/jointjudgments/impl.worthOf").run Try.prog w = .ok (139, .agg #[]) w := by kernel_rfl
theorem meth2 (w : World) : (method 234 101 (.agg #[]) "loop.example/jointjudgments/impl.worthOf").run Try.prog w = .ok (141, .agg #[]) w := by kernel_rfl
theorem meth3 (w : World) : (method 234 102 (.agg #[]) "loop.example/jointjudgments/impl.worthOf").run Try.prog w = .ok (142, .agg #[]) w := by kernel_rfl
theorem isL0 (w : World) : (Instr.typeAssert (.iface 100 (.agg #[])) 67 102 true).run Try.prog w = .ok (.tuple #[.agg #[], .bool false]) w := by kernel_rfl
theorem isL1 (w : World) : (Instr.typeAssert (.iface 94 (.agg #[])) 67 102 true).run Try.prog w = .ok (.tuple #[.agg #[], .bool false]) w := by kernel_rfl
theorem isL2 (w : World) : (Instr.typeAssert (.iface 101 (.agg #[])) 67 102 true).run Try.prog w = .ok (.tuple #[.agg #[], .bool false]) w := by kernel_rfl
theorem isL3 (w : World) : (Instr.typeAssert (.iface 102 (.agg #[])) 67 102 true).run Try.prog w = .ok (.tuple #[.agg #[], .bool true]) w := by kernel_rfl
end Go.Proofs.Ytgkaghappogglaa
