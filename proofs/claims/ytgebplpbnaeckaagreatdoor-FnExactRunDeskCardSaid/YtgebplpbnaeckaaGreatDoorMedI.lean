/- impl.IsMedian. -/
import Derived.Test.YtgebplpbnaeckaaGreatDoorMg13
import Derived.Deep.RegionWith
import Derived.Deep.RegionHeld3
namespace Go.Proofs.YtgebplpbnaeckaaGreatDoor
open Go.RowKit Go.Joins

theorem implValidSpace_isIsMedian (n : Int) (a : Option Addr) (cap : Nat) (zs : List Int) (w : World) (r : Bool) (hi : Ints w a zs) (hn : zs.length ≤ 1048576) (hr : vsB n zs = r) :
    Calls Tryz.prog 99 #[.agg #[.int .i64 n, .slice a zs.length cap]] w fun e w' => e = .returned (.bool r) ∧ Below w.heap.size w w' :=
  (implValidSpace_any n a cap zs w hi hn).mono fun _ _ ⟨he, hb⟩ => ⟨he.trans (ret_bool hr), hb⟩

set_option maxHeartbeats 2000000 in
theorem implIsMedian_any (n : Int) (a : Option Addr) (cap : Nat) (zs : List Int) (w : World) (hi : Ints w a zs) (hn : zs.length ≤ 1048576) (hcap : zs.length ≤ cap) :
    Calls Tryz.prog 77 #[.agg #[.int .i64 n, .slice a zs.length cap]] w fun e w' => e = .returned (.bool (closedB med n zs)) ∧ Below w.heap.size w w' := by
  have S0 := SV.new w n a zs cap none [] 37 hi (Ints.nil _ _)
  clear hi
  by_cases hv : vsB n zs = false
  · have HN := hide (closedB_no (f := med) hv)
    have HV := hide hv
    clear hv
    obtain ⟨⟨_, c0, c1⟩, _⟩ := S0.pair
    go_enter Tryz.func77, Tryz.ntmps77
    go_wp2_with fail
    first
      | go_region_with ((go_at_call 99; refine (implValidSpace_isIsMedian _ _ _ _ _ false S0.drew.2.1 hn HV.out).mono ?_; rintro e w1 ⟨rfl, hb⟩; have S1 := S0.drew.below hb))
      | fail
    all_goals
      go_wp2
      go_ret
      exact ⟨ret_bool HN.out.symm, S1.2.2.2⟩
  · have hv : vsB n zs = true := by simpa using hv
    have HV := hide hv
    have hV := hide (valid_of hv)
    have HR := hide (valid_range hV.out)
    have hjl : (joinL med zs).length = (joined med (zs.map Int.toNat)).length := by unfold joinL; rw [List.length_map]
    have hE : (((joinL med zs).length : Int) == (zs.length : Int)) = closedB med n zs := by
      unfold closedB
      rw [hv, Bool.true_and, hjl, Bool.eq_iff_iff, beq_iff_eq, beq_iff_eq]
      omega
    clear hv hjl
    obtain ⟨⟨_, c0, c1⟩, _⟩ := S0.pair
    go_enter Tryz.func77, Tryz.ntmps77
    go_wp2_with fail
    go_region_held3 (fun w' => w'.cell? ⟨w.heap.size, 0, none⟩ = some (.int .i64 n) ∧ w'.cell? ⟨w.heap.size, 1, none⟩ = some (.slice a zs.length cap))
      (first
        | exact ⟨c0, c1⟩
        | exact ⟨S2.1.2.1, S2.1.2.2⟩
        | exact ⟨S1.1.2.1, S1.1.2.2⟩
        | go_keep)
      (first
        | (go_at_call 99; refine (implValidSpace_isIsMedian _ _ _ _ _ true S0.drew.2.1 hn HV.out).mono ?_; rintro e w1 ⟨rfl, hb⟩; have S1 := S0.drew.below hb)
        | (go_at_call 103; refine (joinedMed_any _ _ _ _ S1.2.1 hn hcap HR.out).mono ?_; rintro e w2 ⟨v, rfl, ov, hb2⟩; obtain ⟨av, cv, rfl, iv, _⟩ := ov.form; have S2 := S1.below hb2))
    all_goals
      go_wp2
      go_ret
      exact ⟨rfl, S2.2.2.2⟩
end Go.Proofs.YtgebplpbnaeckaaGreatDoor
