/- Contracts that the laws on critical parts share. -/
import Derived.Test.YtklgganapphioaaCrI
import Derived.Test.YtklgganapphioaaCrC
import Derived.Test.YtklgganapphioaaPtS
import Derived.Test.YtklgganapphioaaLawH
import Derived.Test.YtklgganapphioaaEqSp
import Derived.Test.YtklgganapphioaaMedI
import Derived.Test.YtklgganapphioaaOpenI
import Derived.Test.YtklgganapphioaaSwI
import Derived.Deep.RegionHeld3
namespace Go.Proofs.Ytklgganapphioaa
open Go.RowKit Go.Joins

theorem implCrit_was (n : Int) (a : Option Addr) (cap : Nat) (zs : List Int) (ps : List (Int × Int)) (w : World) (hi : Ints w a zs) (hn : zs.length ≤ 1048576) (h : crR n zs = ps) :
    Calls Try.prog 18 #[.agg #[.int .i64 n, .slice a zs.length cap]] w (GivesP ps w) := by
  subst h
  exact implCriticalParts_any n a cap zs w hi hn
theorem specCrit_was (n : Int) (a : Option Addr) (cap : Nat) (zs : List Int) (ps : List (Int × Int)) (w : World) (hi : Ints w a zs) (hn : zs.length ≤ 1048576) (h : crR n zs = ps) :
    Calls Try.prog 16 #[.agg #[.int .i64 n, .slice a zs.length cap]] w (GivesP ps w) := by
  subst h
  exact specCriticalParts_any n a cap zs w hi hn
theorem lawWeight_was (x q : Nat) (w : World) (hx : x < 16) (hq : wt x = q) : Calls Try.prog 51 #[.int .i64 x] w fun e w' => e = .returned (.int .i64 (q : Nat)) ∧ w = w' := by
  subst hq
  exact lawWeight_any x w hx
theorem implMed_was (n : Int) (a : Option Addr) (cap : Nat) (zs : List Int) (w : World) (r : Bool) (hi : Ints w a zs) (hn : zs.length ≤ 1048576) (hcap : zs.length ≤ cap) (hr : closedB med n zs = r) :
    Calls Try.prog 49 #[.agg #[.int .i64 n, .slice a zs.length cap]] w fun e w' => e = .returned (.bool r) ∧ Below w.heap.size w w' := by
  subst hr
  exact implIsMedian_any n a cap zs w hi hn hcap
theorem crit_of {N : Nat} {zs : List Int} {L : List (Nat × Nat)} (h : crR (N : Int) zs = ofP L) (hv : vsB (N : Int) zs = true) : L = critL N zs := by
  rw [crR_yes hv, Int.toNat_natCast] at h
  have inj : ∀ (x y : List (Nat × Nat)), ofP x = ofP y → x = y := fun x => by
    induction x with
    | nil => intro y e; cases y with
      | nil => rfl
      | cons b y => cases e
    | cons a x ih => intro y e; cases y with
      | nil => cases e
      | cons b y =>
        have e' : ((a.1 : Int), (a.2 : Int)) :: ofP x = ((b.1 : Int), (b.2 : Int)) :: ofP y := e
        rw [List.cons.injEq, Prod.mk.injEq] at e'
        rw [ih y e'.2]
        obtain ⟨⟨e1, e2⟩, _⟩ := e'
        rw [show a = b from Prod.ext (by omega) (by omega)]
  exact (inj _ _ h).symm
set_option maxHeartbeats 2000000 in
theorem equalParts_yes (a b : Option Addr) (ca cb : Nat) (ps : List (Int × Int)) (w : World) (hx : PInts w a ps) (hy : PInts w b ps) (hn : ps.length ≤ 1048576) :
    Calls Try.prog 44 #[.slice a ps.length ca, .slice b ps.length cb] w fun e w' => e = .returned (.bool true) ∧ Below w.heap.size w w' := by
  have hne : ((ps.length : Int) != (ps.length : Int)) = false := by simp
  have HX := hide hx
  have HY := hide hy
  clear hx hy
  go_enter Try.func44, Try.ntmps44
  go_wp2
  go_loopw [5] (fun i wr => ∃ k : Nat, k ≤ ps.length ∧ i = .int .i64 k ∧ Below w.heap.size w wr) (fun i _ => ps.length - (intOf i).toNat)
  case atStart => exact ⟨0, Nat.zero_le _, rfl, Below.refl _ _⟩
  case round =>
    obtain ⟨k, hk, rfl, hb⟩ := hrel
    by_cases hlt : k < ps.length
    · obtain ⟨b1, o1, rfl, hb1, hc1⟩ := (HX.out.below hb) (by omega)
      obtain ⟨b2, o2, rfl, hb2, hc2⟩ := (HY.out.below hb) (by omega)
      obtain ⟨x1, x2⟩ := hc1 k hlt
      obtain ⟨y1, y2⟩ := hc2 k hlt
      obtain ⟨pc, hpc⟩ : ∃ pc, pc = (ps.getD k (0, 0)).1 := ⟨_, rfl⟩
      obtain ⟨pb, hpb⟩ : ∃ pb, pb = (ps.getD k (0, 0)).2 := ⟨_, rfl⟩
      rw [← hpc] at x1 y1
      rw [← hpb] at x2 y2
      clear hc1 hc2 hpc hpb
      go_wp2
      go_quiet (fail)
      go_wp2
      go_roundw
      case rel => exact ⟨k + 1, by omega, by go_num, hb.trans ((belN _ _).mono hb.size)⟩
      case measure => simp only [intOf]; omega
    · obtain rfl : k = ps.length := by omega
      go_wp2
      go_ret
      exact ⟨rfl, hb⟩
end Go.Proofs.Ytklgganapphioaa
