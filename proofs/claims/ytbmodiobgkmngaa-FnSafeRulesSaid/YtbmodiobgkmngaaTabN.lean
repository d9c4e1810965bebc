/- Neutral rules and dictators, in the model. -/
import Derived.Test.YtbmodiobgkmngaaTabS
namespace Go.Proofs.Ytbmodiobgkmngaa
open Go.RowKit Go.Joins

/-- a group and that of the others win both, or neither -/
def badNeut (v : Int) (x g : Nat) : Bool := bitN x g == bitN x ((pw v).toNat - 1 - g)
def NeutS (v : Int) (ws : List Int) : Prop := ∀ j, j < ws.length → ∀ g : Nat, (g : Int) < pw v → badNeut v (ws.getD j 0).toNat g = false
def NeutPost (n : Int) (zs : List Int) (v : Int) (ws : List Int) (w : World) (e : Ending) (w' : World) : Prop := ∃ r : Bool, (r = true ↔ (vrB n zs v ws = true ∧ NeutS v ws)) ∧ e = .returned (.bool r) ∧ Below w.heap.size w w'
end Go.Proofs.Ytbmodiobgkmngaa
