/- What the four rules answer. -/
import Derived.Test.YtccemllgglfgkaaPoll
import Derived.Test.YtccemllgglfgkaaSet
namespace Go.Proofs.Ytccemllgglfgkaa
open Go.RowKit Go.Joins

def bestA (n : Int) (zs vs : List Int) : List Int := if vvB n zs vs = true then unbL (fun y x => decide (totN vs y < totN vs x)) zs else []
theorem bestA_yes {n : Int} {zs vs : List Int} (h : vvB n zs vs = true) : bestA n zs vs = unbL (fun y x => decide (totN vs y < totN vs x)) zs := if_pos h
theorem bestA_no {n : Int} {zs vs : List Int} (h : vvB n zs vs = false) : bestA n zs vs = [] := if_neg (by rw [h]; decide)
theorem bestA_len (n : Int) (zs vs : List Int) : (bestA n zs vs).length ≤ zs.length := by
  unfold bestA
  split
  · exact List.length_filter_le _ _
  · simp

def bestF (n : Int) (zs vs : List Int) : List Int := if vvB n zs vs = true then unbL (fun y x => decide (farN vs y < farN vs x)) zs else []
theorem bestF_yes {n : Int} {zs vs : List Int} (h : vvB n zs vs = true) : bestF n zs vs = unbL (fun y x => decide (farN vs y < farN vs x)) zs := if_pos h
theorem bestF_no {n : Int} {zs vs : List Int} (h : vvB n zs vs = false) : bestF n zs vs = [] := if_neg (by rw [h]; decide)
theorem bestF_len (n : Int) (zs vs : List Int) : (bestF n zs vs).length ≤ zs.length := by
  unfold bestF
  split
  · exact List.length_filter_le _ _
  · simp

def bestK (n : Int) (zs vs : List Int) : List Int := if vvB n zs vs = true then unbL (fun y x => keptB (wantC vs n.toNat) (wantB vs n.toNat) y x) zs else []
theorem bestK_yes {n : Int} {zs vs : List Int} (h : vvB n zs vs = true) : bestK n zs vs = unbL (fun y x => keptB (wantC vs n.toNat) (wantB vs n.toNat) y x) zs := if_pos h
theorem bestK_no {n : Int} {zs vs : List Int} (h : vvB n zs vs = false) : bestK n zs vs = [] := if_neg (by rw [h]; decide)
theorem bestK_len (n : Int) (zs vs : List Int) : (bestK n zs vs).length ≤ zs.length := by
  unfold bestK
  split
  · exact List.length_filter_le _ _
  · simp

def bestM (n : Int) (zs vs : List Int) : List Int := if vvB n zs vs = true then unbL (fun y x => moreB (wantC vs n.toNat) (wantB vs n.toNat) y x) zs else []
theorem bestM_yes {n : Int} {zs vs : List Int} (h : vvB n zs vs = true) : bestM n zs vs = unbL (fun y x => moreB (wantC vs n.toNat) (wantB vs n.toNat) y x) zs := if_pos h
theorem bestM_no {n : Int} {zs vs : List Int} (h : vvB n zs vs = false) : bestM n zs vs = [] := if_neg (by rw [h]; decide)
theorem bestM_len (n : Int) (zs vs : List Int) : (bestM n zs vs).length ≤ zs.length := by
  unfold bestM
  split
  · exact List.length_filter_le _ _
  · simp

end Go.Proofs.Ytccemllgglfgkaa
