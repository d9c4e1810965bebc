/- CriticalParts of the model. -/
import Derived.Test.YtklgganapphioaaCrS
import Derived.Test.YtklgganapphioaaValid
namespace Go.Proofs.Ytklgganapphioaa
open Go.RowKit Go.Joins

/-- what CriticalParts answers -/
def crR (n : Int) (zs : List Int) : List (Int × Int) := if vsB n zs = true then ofP (critL n.toNat zs) else []
theorem crR_no {n : Int} {zs : List Int} (h : vsB n zs = false) : crR n zs = [] := by unfold crR; rw [if_neg (by rw [h]; simp)]
theorem crR_yes {n : Int} {zs : List Int} (h : vsB n zs = true) : crR n zs = ofP (critL n.toNat zs) := if_pos h
theorem OwnsP.le {w : World} {base base' : Nat} {v : Value} {ps : List (Int × Int)} (h : OwnsP w base v ps) (hb : base' ≤ base) : OwnsP w base' v ps := ownsRow_le h hb
/-- a slice of parts of its own memory -/
def GivesP (ps : List (Int × Int)) (w : World) (e : Ending) (w' : World) : Prop := ∃ v, e = .returned v ∧ OwnsP w' w.heap.size v ps ∧ Below w.heap.size w w'
set_option maxHeartbeats 2000000 in
theorem specCriticalParts_any (n : Int) (a : Option Addr) (cap : Nat) (zs : List Int) (w : World) (hi : Ints w a zs) (hn : zs.length ≤ 1048576) :
    Calls Try.prog 16 #[.agg #[.int .i64 n, .slice a zs.length cap]] w (GivesP (crR n zs) w) := by
  have bx := Box.new w n a zs.length cap 28
  have ia := hi.below (bel1 w (.cells #[.int .i64 n, .slice a zs.length cap] 28))
  clear hi
  by_cases hv : vsB n zs = false
  · have HV := hide (crR_no hv)
    go_enter Try.func16, Try.ntmps16
    go_wp2_with fail
    refine (validSpace_any _ _ _ _ _ ia hn).mono ?_
    rintro e w1 ⟨rfl, hb⟩
    go_wp2
    go_ret
    exact ⟨_, rfl, by rw [HV.out]; exact World.ownsRow_nil _ _ _ _, bnext (bel1 w _) hb⟩
  · have hv : vsB n zs = true := by simpa using hv
    have hV := valid_of hv
    have HR := hide (valid_range hV)
    have hN4 := hV.1
    obtain ⟨N, hN⟩ : ∃ N : Nat, n = (N : Int) := ⟨n.toNat, by omega⟩
    subst hN
    have HV := hide (crR_yes hv)
    have hN : 1 ≤ N ∧ N ≤ 4 := by omega
    clear hV hN4
    go_enter Try.func16, Try.ntmps16
    go_wp2_with fail
    refine (validSpace_any _ _ _ _ _ ia hn).mono ?_
    rintro e w1 ⟨rfl, hb⟩
    obtain ⟨_, c0, c1⟩ := bx.below hb
    have i1 := ia.below hb
    have HB := hide (bnext (bel1 w _) hb)
    clear hb
    go_wp2_with fail
    refine (critical_any N _ _ _ _ i1 hn hN HR.out).mono ?_
    rintro e w2 ⟨v, rfl, own, hb2⟩
    have hsz := HB.out.size
    have HO := hide (own.le (show w.heap.size ≤ w1.heap.size + 1 by omega))
    clear own i1 c0 c1
    go_wp2
    go_ret
    exact ⟨_, rfl, by rw [HV.out, Int.toNat_natCast]; exact HO.out, bnext HB.out hb2⟩
end Go.Proofs.Ytklgganapphioaa
