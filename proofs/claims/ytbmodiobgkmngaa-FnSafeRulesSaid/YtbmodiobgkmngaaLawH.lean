/- The helpers of the laws of promises: equalInts, isIn, among, ascends, weight, power. -/
import Derived.Test.YtbmodiobgkmngaaRead
import Derived.Test.YtbmodiobgkmngaaHas
namespace Go.Proofs.Ytbmodiobgkmngaa
open Go.RowKit Go.Joins


/-- whether two lists are the same -/
def eqB (xs ys : List Int) : Bool := decide (xs = ys)
theorem eqB_refl (xs : List Int) : eqB xs xs = true := by simp [eqB]
set_option maxHeartbeats 400000 in
theorem equalInts_any (a b : Option Addr) (ca cb : Nat) (xs ys : List Int) (w : World) (hx : Ints w a xs) (hy : Ints w b ys) (hn : xs.length ≤ 1048576) (hm : ys.length ≤ 1048576) :
    Calls Try.prog 59 #[.slice a xs.length ca, .slice b ys.length cb] w fun e w' => e = .returned (.bool (eqB xs ys)) ∧ Below w.heap.size w w' := by
  by_cases hl : xs.length = ys.length
  · have hne : ((xs.length : Int) != (ys.length : Int)) = false := by simp [hl]
    have HL := hide hl
    clear hl
    go_enter Try.func59, Try.ntmps59
    go_wp2
    go_loopw [5] (fun i wr => ∃ k : Nat, k ≤ xs.length ∧ i = .int .i64 k ∧ (∀ j, j < k → xs.getD j 0 = ys.getD j 0) ∧ Below w.heap.size w wr) (fun i _ => xs.length - (intOf i).toNat)
    case atStart => exact ⟨0, Nat.zero_le _, rfl, fun j hj => by omega, Below.refl _ _⟩
    case round =>
      obtain ⟨k, hk, rfl, hall, hb⟩ := hrel
      have HA := hide hall
      clear hall
      by_cases hlt : k < xs.length
      · obtain ⟨b1, o1, rfl, hb1, hc1⟩ := hx (by omega)
        obtain ⟨b2, o2, rfl, hb2, hc2⟩ := hy (by rw [← HL.out]; omega)
        have hlt2 : k < ys.length := by rw [← HL.out]; exact hlt
        have h1 := (hb.cell (p := ⟨b1, o1 + k, none⟩) hb1).trans (hc1 k hlt)
        have h2 := (hb.cell (p := ⟨b2, o2 + k, none⟩) hb2).trans (hc2 k hlt2)
        clear hc1 hc2
        rw [getD_lt hlt] at h1
        rw [getD_lt hlt2] at h2
        by_cases he : xs[k] = ys[k]
        · have hE : (xs[k] != ys[k]) = false := by simpa using he
          have HE := hide he
          clear he
          go_wp2
          go_quiet (fail)
          go_wp2
          go_roundw
          case rel => exact ⟨k + 1, by omega, by go_num, fun j hj => by
            rcases Nat.lt_or_ge j k with h | h
            · exact HA.out j h
            · obtain rfl : j = k := by omega
              rw [getD_lt hlt, getD_lt hlt2]
              exact HE.out, hb.trans ((belN _ _).mono hb.size)⟩
          case measure => simp only [intOf]; omega
        · have hE : (xs[k] != ys[k]) = true := by simpa using he
          go_wp2
          go_quiet (fail)
          go_wp2
          go_ret
          exact ⟨ret_bool (by simp [eqB]; intro e; subst e; exact he rfl), hb.trans ((belN _ _).mono hb.size)⟩
      · obtain rfl : k = xs.length := by omega
        go_wp2
        go_ret
        refine ⟨ret_bool ?_, hb⟩
        have : xs = ys := ints_ext HL.out HA.out
        simp [this, eqB]
  · have hne : ((xs.length : Int) != (ys.length : Int)) = true := by simp; omega
    have HL := hide (show ¬ xs = ys from fun e => hl (by rw [e]))
    clear hl
    go_enter Try.func59, Try.ntmps59
    go_wp2
    go_ret
    exact ⟨ret_bool (by simp [eqB, HL.out]), Below.refl _ _⟩
theorem equalInts_yes (a b : Option Addr) (ca cb : Nat) (xs : List Int) (w : World) (hx : Ints w a xs) (hy : Ints w b xs) (hn : xs.length ≤ 1048576) :
    Calls Try.prog 59 #[.slice a xs.length ca, .slice b xs.length cb] w fun e w' => e = .returned (.bool true) ∧ Below w.heap.size w w' :=
  (equalInts_any a b ca cb xs xs w hx hy hn hn).mono fun _ _ ⟨he, hb⟩ => ⟨he.trans (ret_bool (eqB_refl _)), hb⟩


/-- whether all of a list are in another one -/
def amongB (xs ys : List Int) : Bool := xs.all fun x => hasB ys x
theorem amongB_true {xs ys : List Int} (h : ∀ x ∈ xs, x ∈ ys) : amongB xs ys = true := List.all_eq_true.2 fun x hx => hasB_true (h x hx)

/-- Each is more than the one before. -/
def Ups (zs : List Int) : Prop := ∀ i, i < zs.length → 0 < i → zs.getD (i - 1) 0 < zs.getD i 0

end Go.Proofs.Ytbmodiobgkmngaa
