/- BetweenOf in the model and in the program. -/
import Derived.Test.YtklfpbidbiippaaHullI
import Derived.Test.YtklfpbidbiippaaGap
import Derived.Test.YtklfpbidbiippaaListLaw
namespace Go.Proofs.Ytklfpbidbiippaa
open Go.RowKit Go.Joins

def btwP (x y z : Int) : Bool := wt (x.toNat ^^^ z.toNat) + wt (z.toNat ^^^ y.toNat) == wt (x.toNat ^^^ y.toNat)
def BtwOk (n : Int) (zs : List Int) (x y : Int) : Prop := Valid n zs ∧ x ∈ zs ∧ y ∈ zs
instance (n : Int) (zs : List Int) (x y : Int) : Decidable (BtwOk n zs x y) := by unfold BtwOk; infer_instance
def btwL (n : Int) (zs : List Int) (x y : Int) : List Int := if BtwOk n zs x y then zs.filter (btwP x y) else []
theorem btwL_yes {n : Int} {zs : List Int} {x y : Int} (h : BtwOk n zs x y) : btwL n zs x y = zs.filter (btwP x y) := if_pos h
theorem btwL_no {n : Int} {zs : List Int} {x y : Int} (h : ¬ BtwOk n zs x y) : btwL n zs x y = [] := if_neg h
theorem btwL_len (n : Int) (zs : List Int) (x y : Int) : (btwL n zs x y).length ≤ zs.length := by
  unfold btwL
  split
  · exact List.length_filter_le _ _
  · simp

theorem btw_fin : ∀ m : Fin 5, ∀ x : Fin 16, ∀ y : Fin 16, ∀ z : Fin 16, x.val < 2 ^ m.val → y.val < 2 ^ m.val → z.val < 2 ^ m.val →
    ((z.val ^^^ x.val) &&& ((2 ^ m.val - 1) - ((2 ^ m.val - 1) &&& (y.val ^^^ x.val))) == 0) = (wt (x.val ^^^ z.val) + wt (z.val ^^^ y.val) == wt (x.val ^^^ y.val)) := by
  decide +kernel
theorem btw_eq (n : Int) (zs : List Int) (x y : Int) : hullL n zs [x, y] = btwL n zs x y := by
  by_cases h : BtwOk n zs x y
  · have hH : HullOk n zs [x, y] := ⟨h.1, ⟨by simp, by simp⟩, fun j hj => by
      match j, hj with
      | 0, _ => simpa using h.2.1
      | 1, _ => simpa using h.2.2⟩
    rw [hullL_yes hH, btwL_yes h]
    refine List.filter_congr (fun z hz => ?_)
    have hV := h.1
    have hr : ∀ t ∈ zs, 0 ≤ t ∧ t ≤ pw n - 1 := fun t ht => by
      obtain ⟨j, hj, rfl⟩ := List.getElem_of_mem ht
      have := (hV.2.2 j hj).1
      rwa [getD_lt hj] at this
    have hx := hr x h.2.1
    have hy := hr y h.2.2
    have hz' := hr z hz
    have hn := hV.1
    have p2 := pw_le n hn.2
    have hp : pw n = ((2 ^ n.toNat : Nat) : Int) := rfl
    have key := btw_fin ⟨n.toNat, by omega⟩ ⟨x.toNat, by omega⟩ ⟨y.toNat, by omega⟩ ⟨z.toNat, by omega⟩ (by show x.toNat < 2 ^ n.toNat; omega) (by show y.toNat < 2 ^ n.toNat; omega) (by show z.toNat < 2 ^ n.toNat; omega)
    dsimp only at key
    unfold hullP btwP
    rw [← key]
    have e0 : ([x, y] : List Int).getD 0 0 = x := rfl
    have e1 : ([x, y] : List Int).getD 1 0 = y := rfl
    have hc : careK n [x, y] ([x, y] : List Int).length = (2 ^ n.toNat - 1) - ((2 ^ n.toNat - 1) &&& (y.toNat ^^^ x.toNat)) := by
      show careK n [x, y] 2 = _
      have h0 : careK n [x, y] 0 = 2 ^ n.toNat - 1 := by unfold careK; omega
      have h1 : careK n [x, y] 1 = 2 ^ n.toNat - 1 := by rw [careK, h0, e0, Nat.xor_self, Nat.and_zero, Nat.sub_zero]
      rw [careK, h1, e0, e1]
    rw [hc, e0]
  · rw [btwL_no h, hullL_no]
    intro hH
    refine h ⟨hH.1, ?_, ?_⟩
    · simpa using hH.2.2 0 (by simp)
    · simpa using hH.2.2 1 (by simp)

theorem implBetweenOf_any (n x y : Int) (a : Option Addr) (cap : Nat) (zs : List Int) (w : World) (hi : Ints w a zs) (hn : zs.length ≤ 1048576) :
    Calls Try.prog 32 #[.agg #[.int .i64 n, .slice a zs.length cap], .int .i64 x, .int .i64 y] w (Gives (btwL n zs x y) w) := by
  have hB := bel2 w (.cells #[.int .i64 n, .slice a zs.length cap] 25) (.cells #[.int .i64 x, .int .i64 y] 3)
  have il : Ints ((w.alloc (.cells #[.int .i64 n, .slice a zs.length cap] 25)).alloc (.cells #[.int .i64 x, .int .i64 y] 3)) (some ⟨w.heap.size + 1, 0, none⟩) [x, y] := fun _ =>
    ⟨w.heap.size + 1, 0, rfl, by simp, fun k hk => by
      match k, hk with
      | 0, _ => simp [go_sem]
      | 1, _ => simp [go_sem]⟩
  go_enter Try.func32, Try.ntmps32
  go_wp2_with fail
  have hc := implHullOf_any n a (some ⟨w.heap.size + 1, 0, none⟩) cap 2 zs [x, y] _ (hi.below hB) il hn (by simp)
  refine hc.mono ?_
  rintro e w1 ⟨v, rfl, ov, hb⟩
  go_wp2
  go_ret
  exact ⟨v, rfl, by rw [← btw_eq]; exact ov.le hB.size, bnext hB hb⟩

end Go.Proofs.Ytklfpbidbiippaa
