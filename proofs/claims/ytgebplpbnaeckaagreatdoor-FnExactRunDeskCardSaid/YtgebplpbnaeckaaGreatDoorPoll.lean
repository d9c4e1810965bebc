/- What the four rules of a poll hold better: gaps from all votes, from the farthest vote, the answers that are lost. -/
import Derived.Test.YtgebplpbnaeckaaGreatDoorNearF
import Derived.Test.YtgebplpbnaeckaaGreatDoorMg10
import Derived.Test.YtgebplpbnaeckaaGreatDoorMg08
import Derived.Deep.RegionHeld3
import Derived.Deep.RegionWith
import Derived.Outline
namespace Go.Proofs.YtgebplpbnaeckaaGreatDoor
open Go.RowKit Go.Joins

/-- how far a judgment is from a vote -/
def gp (x v : Int) : Nat := wt (x.toNat ^^^ v.toNat)
theorem gp_le (x v : Int) : gp x v ≤ 4 := wt_le _
theorem gp_comm (x v : Int) : gp x v = gp v x := by unfold gp; rw [Nat.xor_comm]
theorem gp_imp {x v : Int} (w : World) (hx : 0 ≤ x ∧ x ≤ 15) (hv : 0 ≤ v ∧ v ≤ 15) : Calls Tryz.prog 161 #[.int .i64 x, .int .i64 v] w fun e w' => e = .returned (.int .i64 (gp x v : Nat)) ∧ w = w' := by
  refine (implGapOf_any x v w).mono ?_
  rintro e w' ⟨he, hw⟩
  refine ⟨he.trans (ret_int ?_), hw⟩
  unfold gapV gp
  rw [if_pos ⟨hx, hv⟩]
theorem gp_spec {x v : Int} (w : World) (hx : 0 ≤ x ∧ x ≤ 15) (hv : 0 ≤ v ∧ v ≤ 15) : Calls Tryz.prog 94 #[.int .i64 v, .int .i64 x] w fun e w' => e = .returned (.int .i64 (gp x v : Nat)) ∧ w = w' := by
  obtain ⟨a, rfl⟩ := Int.eq_ofNat_of_zero_le hx.1
  obtain ⟨b, rfl⟩ := Int.eq_ofNat_of_zero_le hv.1
  have h := gap_any b a w (by omega) (by omega)
  rw [gp_comm]
  exact h

def totK (vs : List Int) (x : Int) : Nat → Nat
  | 0 => 0
  | k + 1 => totK vs x k + gp x (vs.getD k 0)
theorem totK_le (vs : List Int) (x : Int) : ∀ k, totK vs x k ≤ 4 * k
  | 0 => Nat.le_refl _
  | k + 1 => by have := totK_le vs x k; have := gp_le x (vs.getD k 0); unfold totK; omega
def totN (vs : List Int) (x : Int) : Nat := totK vs x vs.length
def farK (vs : List Int) (x : Int) : Nat → Nat
  | 0 => 0
  | k + 1 => max (farK vs x k) (gp x (vs.getD k 0))
theorem farK_le (vs : List Int) (x : Int) : ∀ k, farK vs x k ≤ 4
  | 0 => Nat.zero_le _
  | k + 1 => by have := farK_le vs x k; have := gp_le x (vs.getD k 0); unfold farK; omega
def farN (vs : List Int) (x : Int) : Nat := farK vs x vs.length
/-- the wanted answers that a judgment does not give -/
def lostN (c b : Nat) (x : Int) : Nat := (x.toNat ^^^ b) &&& c
theorem lostN_lt {c b : Nat} (x : Int) (hc : c < 16) : lostN c b x < 16 := Nat.lt_of_le_of_lt Nat.and_le_right hc
def keptB (c b : Nat) (y x : Int) : Bool := (lostN c b y &&& lostN c b x == lostN c b y) && (lostN c b y != lostN c b x)
def moreB (c b : Nat) (y x : Int) : Bool := decide (wt (lostN c b y) < wt (lostN c b x))

/-- A poll in a variable. -/
def PollBox (w : World) (g : Nat) (n : Int) (a l : Option Addr) (len cap m capl : Nat) (C B : Int) : Prop :=
  g < w.heap.size ∧ w.cell? ⟨g, 0, none⟩ = some (.int .i64 n) ∧ w.cell? ⟨g, 1, none⟩ = some (.slice a len cap) ∧ w.cell? ⟨g, 2, none⟩ = some (.slice l m capl) ∧ w.cell? ⟨g, 3, none⟩ = some (.int .i64 C) ∧ w.cell? ⟨g, 4, none⟩ = some (.int .i64 B)
theorem PollBox.below {w w' : World} {g : Nat} {n : Int} {a l : Option Addr} {len cap m capl : Nat} {C B : Int} (h : PollBox w g n a l len cap m capl C B) (hb : Below w.heap.size w w') : PollBox w' g n a l len cap m capl C B :=
  ⟨Nat.lt_of_lt_of_le h.1 hb.size, (hb.cell (p := ⟨g, 0, none⟩) h.1).trans h.2.1, (hb.cell (p := ⟨g, 1, none⟩) h.1).trans h.2.2.1, (hb.cell (p := ⟨g, 2, none⟩) h.1).trans h.2.2.2.1,
    (hb.cell (p := ⟨g, 3, none⟩) h.1).trans h.2.2.2.2.1, (hb.cell (p := ⟨g, 4, none⟩) h.1).trans h.2.2.2.2.2⟩
theorem PollBox.new (w : World) (n : Int) (a l : Option Addr) (len cap m capl : Nat) (C B : Int) : PollBox (w.alloc (.cells #[.int .i64 n, .slice a len cap, .slice l m capl, .int .i64 C, .int .i64 B] 165)) w.heap.size n a l len cap m capl C B :=
  ⟨by simp, by simp [go_sem], by simp [go_sem], by simp [go_sem], by simp [go_sem], by simp [go_sem]⟩
theorem PollBox.drew {w : World} {g : Nat} {n : Int} {a l : Option Addr} {len cap m capl : Nat} {C B : Int} (h : PollBox w g n a l len cap m capl C B) : PollBox w.drew g n a l len cap m capl C B := h.below (bdrew' (Below.refl _ _))
theorem PollBox.cells {w : World} {g : Nat} {n : Int} {a l : Option Addr} {len cap m capl : Nat} {C B : Int} (h : PollBox w g n a l len cap m capl C B) :
    w.cell? ⟨g, 0, none⟩ = some (.int .i64 n) ∧ w.cell? ⟨g, 1, none⟩ = some (.slice a len cap) ∧ w.cell? ⟨g, 2, none⟩ = some (.slice l m capl) ∧ w.cell? ⟨g, 3, none⟩ = some (.int .i64 C) ∧ w.cell? ⟨g, 4, none⟩ = some (.int .i64 B) := h.2

set_option maxHeartbeats 1000000 in
theorem nearerAll_any (n : Int) (a l : Option Addr) (len cap capl : Nat) (vs : List Int) (C B : Int) (y x : Int) (w : World) (hj : Ints w l vs) (h5 : vs.length ≤ 5) (hr : ∀ v ∈ vs, 0 ≤ v ∧ v ≤ 15) (hy : 0 ≤ y ∧ y ≤ 15) (hx : 0 ≤ x ∧ x ≤ 15) :
    Calls Tryz.prog 136 #[.agg #[.int .i64 n, .slice a len cap, .slice l vs.length capl, .int .i64 C, .int .i64 B], .int .i64 y, .int .i64 x] w
      fun e w' => e = .returned (.bool (decide (totN vs y < totN vs x))) ∧ Below w.heap.size w w' := by
  have il := hj.below (bel1 w (.cells #[.int .i64 n, .slice a len cap, .slice l vs.length capl, .int .i64 C, .int .i64 B] 165))
  have HR := hide hr
  have HX := hide hx
  have HY := hide hy
  clear hj hr hx hy
  go_enter Tryz.func136, Tryz.ntmps136
  go_wp2_with fail
  go_loop [7, 13] (fun s i => ∃ k : Nat, k ≤ vs.length ∧ i = .int .i64 k ∧ s = .int .i64 ((totK vs y k : Int) - (totK vs x k : Int))) (fun _ i => vs.length - (intOf i).toNat)
  case atStart => exact ⟨0, Nat.zero_le _, rfl, rfl⟩
  case round =>
    obtain ⟨k, hk, rfl, rfl⟩ := hrel
    have b1 := totK_le vs y k
    have b2 := totK_le vs x k
    by_cases hlt : k < vs.length
    · obtain ⟨b, off, rfl, hbl, hc⟩ := il (by omega)
      have hck := hc k hlt
      rw [getD_lt hlt] at hck
      have g1 := gp_le y vs[k]
      have g2 := gp_le x vs[k]
      have H1 := hide (show totK vs y (k + 1) = totK vs y k + gp y vs[k] from by rw [totK, getD_lt hlt])
      have H2 := hide (show totK vs x (k + 1) = totK vs x k + gp x vs[k] from by rw [totK, getD_lt hlt])
      clear hc il
      go_wp2_with (first
        | (go_at_call 161; (with_reducible refine (gp_imp (x := y) _ HY.out (HR.out _ (mem_of_at hlt))).mono ?_); rintro e w' ⟨rfl, rfl⟩)
        | (go_at_call 161; (with_reducible refine (gp_imp (x := x) _ HX.out (HR.out _ (mem_of_at hlt))).mono ?_); rintro e w' ⟨rfl, rfl⟩))
      go_round
      case rel => exact ⟨k + 1, by omega, by go_num, by rw [H1.out, H2.out]; go_num⟩
      case measure => simp only [intOf]; omega
    · obtain rfl : k = vs.length := by omega
      go_wp2
      go_ret
      refine ⟨ret_bool ?_, bel1 w _⟩
      unfold totN
      rw [Bool.eq_iff_iff, decide_eq_true_eq, decide_eq_true_eq]
      omega

set_option maxHeartbeats 1000000 in
theorem greatestGap_any (n : Int) (a l : Option Addr) (len cap capl : Nat) (vs : List Int) (C B : Int) (x : Int) (w : World) (hj : Ints w l vs) (h5 : vs.length ≤ 5) (hr : ∀ v ∈ vs, 0 ≤ v ∧ v ≤ 15) (hx : 0 ≤ x ∧ x ≤ 15) :
    Calls Tryz.prog 162 #[.agg #[.int .i64 n, .slice a len cap, .slice l vs.length capl, .int .i64 C, .int .i64 B], .int .i64 x] w
      fun e w' => e = .returned (.int .i64 (farN vs x : Nat)) ∧ Below w.heap.size w w' := by
  have il := hj.below (bel1 w (.cells #[.int .i64 n, .slice a len cap, .slice l vs.length capl, .int .i64 C, .int .i64 B] 165))
  have HR := hide hr
  have HX := hide hx
  clear hj hr hx
  go_enter Tryz.func162, Tryz.ntmps162
  go_wp2_with fail
  go_loop [5, 11] (fun s i => ∃ k : Nat, k ≤ vs.length ∧ i = .int .i64 k ∧ s = .int .i64 (farK vs x k : Nat)) (fun _ i => vs.length - (intOf i).toNat)
  case atStart => exact ⟨0, Nat.zero_le _, rfl, rfl⟩
  case round =>
    obtain ⟨k, hk, rfl, rfl⟩ := hrel
    have b1 := farK_le vs x k
    by_cases hlt : k < vs.length
    · obtain ⟨b, off, rfl, hbl, hc⟩ := il (by omega)
      have hck := hc k hlt
      rw [getD_lt hlt] at hck
      have g1 := gp_le x vs[k]
      have H1 := hide (show farK vs x (k + 1) = max (farK vs x k) (gp x vs[k]) from by rw [farK, getD_lt hlt])
      clear hc il
      by_cases hm : farK vs x k < gp x vs[k]
      · go_wp2_with (go_at_call 161; refine (gp_imp (x := x) _ HX.out (HR.out _ (mem_of_at hlt))).mono ?_; rintro e w' ⟨rfl, rfl⟩)
        go_round
        case rel => exact ⟨k + 1, by omega, by go_num, by rw [H1.out, Nat.max_eq_right (Nat.le_of_lt hm)]⟩
        case measure => simp only [intOf]; omega
      · have hm' : gp x vs[k] ≤ farK vs x k := by omega
        go_wp2_with (go_at_call 161; refine (gp_imp (x := x) _ HX.out (HR.out _ (mem_of_at hlt))).mono ?_; rintro e w' ⟨rfl, rfl⟩)
        go_round
        case rel => exact ⟨k + 1, by omega, by go_num, by rw [H1.out, Nat.max_eq_left hm']⟩
        case measure => simp only [intOf]; omega
    · obtain rfl : k = vs.length := by omega
      go_wp2
      go_ret
      exact ⟨rfl, bel1 w _⟩

theorem lost_bits : ∀ x b c : Fin 16, bits .and .i64 (bits .xor .i64 ((x.val : Nat) : Int) ((b.val : Nat) : Int)) ((c.val : Nat) : Int) = (((x.val ^^^ b.val) &&& c.val : Nat) : Int) := by decide +kernel

theorem lost_any (n : Int) (a l : Option Addr) (len cap m capl : Nat) (c b : Nat) (x : Int) (w : World) (hc : c < 16) (hb : b < 16) (hx : 0 ≤ x ∧ x ≤ 15) :
    Calls Tryz.prog 163 #[.agg #[.int .i64 n, .slice a len cap, .slice l m capl, .int .i64 c, .int .i64 b], .int .i64 x] w
      fun e w' => e = .returned (.int .i64 (lostN c b x : Nat)) ∧ Below w.heap.size w w' := by
  obtain ⟨z, rfl⟩ := Int.eq_ofNat_of_zero_le hx.1
  have hz : z < 16 := by omega
  have h := hide (lost_bits ⟨z, hz⟩ ⟨b, hb⟩ ⟨c, hc⟩)
  have hx1 := xor_small z b hz hb
  clear hx
  go_enter Tryz.func163, Tryz.ntmps163
  go_wp2
  go_ret
  refine ⟨ret_int ?_, bel1 w _⟩
  have h' : bits .and .i64 (bits .xor .i64 (z : Int) (b : Int)) (c : Int) = (((z ^^^ b) &&& c : Nat) : Int) := h.out
  rw [hx1] at h'
  exact h'

set_option maxHeartbeats 2000000 in
theorem nearerFar_any (n : Int) (a l : Option Addr) (len cap capl : Nat) (vs : List Int) (C B : Int) (y x : Int) (w : World) (hj : Ints w l vs) (h5 : vs.length ≤ 5) (hr : ∀ v ∈ vs, 0 ≤ v ∧ v ≤ 15) (hy : 0 ≤ y ∧ y ≤ 15) (hx : 0 ≤ x ∧ x ≤ 15) :
    Calls Tryz.prog 137 #[.agg #[.int .i64 n, .slice a len cap, .slice l vs.length capl, .int .i64 C, .int .i64 B], .int .i64 y, .int .i64 x] w
      fun e w' => e = .returned (.bool (decide (farN vs y < farN vs x))) ∧ Below w.heap.size w w' := by
  have P0 := (PollBox.new w n a l len cap vs.length capl C B).drew
  have I0 := hj.below (bdrew' (bel1 w (.cells #[.int .i64 n, .slice a len cap, .slice l vs.length capl, .int .i64 C, .int .i64 B] 165)))
  have B0 := bdrew' (bel1 w (.cells #[.int .i64 n, .slice a len cap, .slice l vs.length capl, .int .i64 C, .int .i64 B] 165))
  have HR := hide hr
  have HX := hide hx
  have HY := hide hy
  have c0 := P0.cells
  clear hj hr hx hy
  go_enter Tryz.func137, Tryz.ntmps137
  go_wp2_with fail
  go_region_held3 (fun w' => w'.cell? ⟨w.heap.size, 0, none⟩ = some (.int .i64 n) ∧ w'.cell? ⟨w.heap.size, 1, none⟩ = some (.slice a len cap) ∧ w'.cell? ⟨w.heap.size, 2, none⟩ = some (.slice l vs.length capl) ∧ w'.cell? ⟨w.heap.size, 3, none⟩ = some (.int .i64 C) ∧ w'.cell? ⟨w.heap.size, 4, none⟩ = some (.int .i64 B))
    (first
      | exact c0
      | exact P0.cells
      | go_keep)
    (first
      | (go_at_call 162; (with_reducible refine (greatestGap_any n a l len cap capl vs C B y _ I0 h5 HR.out HY.out).mono ?_); rintro e wq ⟨rfl, hbq⟩; replace P0 := P0.below hbq; replace I0 := I0.below hbq; replace B0 := bnext B0 hbq)
      | (go_at_call 162; (with_reducible refine (greatestGap_any n a l len cap capl vs C B x _ I0 h5 HR.out HX.out).mono ?_); rintro e wq ⟨rfl, hbq⟩; replace P0 := P0.below hbq; replace I0 := I0.below hbq; replace B0 := bnext B0 hbq))
  all_goals
    go_wp2
    go_ret
    exact ⟨rfl, B0⟩

theorem andnot_bits : ∀ p q : Fin 16, (bits .andNot .i64 ((p.val : Nat) : Int) ((q.val : Nat) : Int) == 0) = (p.val &&& q.val == p.val) := by decide +kernel
theorem keptB_no {c b : Nat} {y x : Int} (h : (lostN c b y &&& lostN c b x == lostN c b y) = false) : keptB c b y x = false := by unfold keptB; rw [h]; rfl
theorem keptB_yes {c b : Nat} {y x : Int} (h : (lostN c b y &&& lostN c b x == lostN c b y) = true) : keptB c b y x = (lostN c b y != lostN c b x) := by unfold keptB; rw [h]; rfl
theorem onesP_was (x : Nat) (y : Int) (w : World) (hy : y = (x : Int)) (hx : x < 16) : Calls Tryz.prog 122 #[.int .u64 y] w fun e w' => e = .returned (.int .i64 (wt x : Nat)) ∧ w = w' := by
  subst hy
  exact onesCount_any x w hx

set_option maxHeartbeats 4000000 in
theorem keepsAll_any (n : Int) (a l : Option Addr) (len cap m capl : Nat) (c b : Nat) (y x : Int) (w : World) (hc : c < 16) (hb : b < 16) (hy : 0 ≤ y ∧ y ≤ 15) (hx : 0 ≤ x ∧ x ≤ 15) :
    Calls Tryz.prog 138 #[.agg #[.int .i64 n, .slice a len cap, .slice l m capl, .int .i64 c, .int .i64 b], .int .i64 y, .int .i64 x] w
      fun e w' => e = .returned (.bool (keptB c b y x)) ∧ Below w.heap.size w w' := by
  have P0 := (PollBox.new w n a l len cap m capl c b).drew
  have B0 := bdrew' (bel1 w (.cells #[.int .i64 n, .slice a len cap, .slice l m capl, .int .i64 c, .int .i64 b] 165))
  have HX := hide hx
  have HY := hide hy
  have c0 := P0.cells
  have hA := andnot_bits ⟨lostN c b y, lostN_lt y hc⟩ ⟨lostN c b x, lostN_lt x hc⟩
  simp only at hA
  clear hx hy
  by_cases hk : (lostN c b y &&& lostN c b x == lostN c b y) = true
  · have HK := hide (keptB_yes hk)
    rw [hk] at hA
    clear hk
    go_enter Tryz.func138, Tryz.ntmps138
    go_wp2_with fail
    go_region_held3 (fun w' => w'.cell? ⟨w.heap.size, 0, none⟩ = some (.int .i64 n) ∧ w'.cell? ⟨w.heap.size, 1, none⟩ = some (.slice a len cap) ∧ w'.cell? ⟨w.heap.size, 2, none⟩ = some (.slice l m capl) ∧ w'.cell? ⟨w.heap.size, 3, none⟩ = some (.int .i64 c) ∧ w'.cell? ⟨w.heap.size, 4, none⟩ = some (.int .i64 b))
      (first
        | exact c0
        | exact P0.cells
        | go_keep)
      (first
        | (go_at_call 163; (with_reducible refine (lost_any n a l len cap m capl c b y _ hc hb HY.out).mono ?_); rintro e wq ⟨rfl, hbq⟩; replace P0 := P0.below hbq; replace B0 := bnext B0 hbq)
        | (go_at_call 163; (with_reducible refine (lost_any n a l len cap m capl c b x _ hc hb HX.out).mono ?_); rintro e wq ⟨rfl, hbq⟩; replace P0 := P0.below hbq; replace B0 := bnext B0 hbq))
    all_goals
      go_wp2
      go_ret
      refine ⟨ret_bool ?_, B0⟩
      rw [HK.out, Bool.eq_iff_iff, bne_iff_ne, bne_iff_ne]
      omega
  · have hk : (lostN c b y &&& lostN c b x == lostN c b y) = false := by simpa using hk
    have HK := hide (keptB_no hk)
    rw [hk] at hA
    clear hk
    go_enter Tryz.func138, Tryz.ntmps138
    go_wp2_with fail
    first
      | go_region_with ((first
        | (go_at_call 163; (with_reducible refine (lost_any n a l len cap m capl c b y _ hc hb HY.out).mono ?_); rintro e wq ⟨rfl, hbq⟩; replace P0 := P0.below hbq; obtain ⟨d0, d1, d2, d3, d4⟩ := P0.cells; replace B0 := bnext B0 hbq)
        | (go_at_call 163; (with_reducible refine (lost_any n a l len cap m capl c b x _ hc hb HX.out).mono ?_); rintro e wq ⟨rfl, hbq⟩; replace P0 := P0.below hbq; obtain ⟨d0, d1, d2, d3, d4⟩ := P0.cells; replace B0 := bnext B0 hbq)))
      | fail
    all_goals
      go_wp2
      go_ret
      exact ⟨ret_bool HK.out.symm, B0⟩

set_option maxHeartbeats 4000000 in
theorem keepsMore_any (n : Int) (a l : Option Addr) (len cap m capl : Nat) (c b : Nat) (y x : Int) (w : World) (hc : c < 16) (hb : b < 16) (hy : 0 ≤ y ∧ y ≤ 15) (hx : 0 ≤ x ∧ x ≤ 15) :
    Calls Tryz.prog 139 #[.agg #[.int .i64 n, .slice a len cap, .slice l m capl, .int .i64 c, .int .i64 b], .int .i64 y, .int .i64 x] w
      fun e w' => e = .returned (.bool (moreB c b y x)) ∧ Below w.heap.size w w' := by
  have P0 := (PollBox.new w n a l len cap m capl c b).drew
  have B0 := bdrew' (bel1 w (.cells #[.int .i64 n, .slice a len cap, .slice l m capl, .int .i64 c, .int .i64 b] 165))
  have HX := hide hx
  have HY := hide hy
  have c0 := P0.cells
  have hy16 := hide (lostN_lt (b := b) y hc)
  have hx16 := hide (lostN_lt (b := b) x hc)
  have HU1 := hide (show IntKind.u64.wrap (lostN c b y : Int) = (lostN c b y : Int) from by have := hy16.out; unfold IntKind.wrap; simp [IntKind.bits, IntKind.signed]; omega)
  have HU2 := hide (show IntKind.u64.wrap (lostN c b x : Int) = (lostN c b x : Int) from by have := hx16.out; unfold IntKind.wrap; simp [IntKind.bits, IntKind.signed]; omega)
  clear hx hy
  go_enter Tryz.func139, Tryz.ntmps139
  go_wp2_with fail
  go_region_held3 (fun w' => w'.cell? ⟨w.heap.size, 0, none⟩ = some (.int .i64 n) ∧ w'.cell? ⟨w.heap.size, 1, none⟩ = some (.slice a len cap) ∧ w'.cell? ⟨w.heap.size, 2, none⟩ = some (.slice l m capl) ∧ w'.cell? ⟨w.heap.size, 3, none⟩ = some (.int .i64 c) ∧ w'.cell? ⟨w.heap.size, 4, none⟩ = some (.int .i64 b))
    (first
      | exact c0
      | exact P0.cells
      | go_keep)
    (first
      | (go_at_call 163; (with_reducible refine (lost_any n a l len cap m capl c b y _ hc hb HY.out).mono ?_); rintro e wq ⟨rfl, hbq⟩; replace P0 := P0.below hbq; replace B0 := bnext B0 hbq)
      | (go_at_call 163; (with_reducible refine (lost_any n a l len cap m capl c b x _ hc hb HX.out).mono ?_); rintro e wq ⟨rfl, hbq⟩; replace P0 := P0.below hbq; replace B0 := bnext B0 hbq)
      | (go_at_call 122; (with_reducible refine (onesP_was (lostN c b y) _ _ HU1.out hy16.out).mono ?_); rintro e w' ⟨rfl, rfl⟩)
      | (go_at_call 122; (with_reducible refine (onesP_was (lostN c b x) _ _ HU2.out hx16.out).mono ?_); rintro e w' ⟨rfl, rfl⟩))
  all_goals
    go_wp2
    go_ret
    exact ⟨rfl, B0⟩
end Go.Proofs.YtgebplpbnaeckaaGreatDoor
