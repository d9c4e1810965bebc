/- Maps with parts as keys: the keys' law. -/
import Derived.Test.YtbnnblfgpdfmpaaMapK
namespace Go.Proofs.Ytbnnblfgpdfmpaa
open Go Go.ChangeMaps Go.MapKept Go.WideShapes Go.WideAt
open Go.Maps (Keyed)

theorem map_laid : laidOutB Try.prog = true := by kernel_rfl
theorem part_row : (60 : TypeId) < Try.prog.types.size := of_decide_eq_true (by kernel_rfl)
theorem part_wide : (match Try.prog.underlying 60 with | some (.array _ _) | some (.struct _) => true | _ => false) = true := by kernel_rfl
set_option maxRecDepth 100000 in
theorem part_keyed : Keyed Try.prog 60 := Keyed.of_law (deep_law_laid map_laid (m := 2) (by omega) part_row (by kernel_rfl) part_wide)
end Go.Proofs.Ytbnnblfgpdfmpaa
