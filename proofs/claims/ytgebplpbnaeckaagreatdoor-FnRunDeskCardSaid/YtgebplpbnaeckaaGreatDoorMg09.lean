/- Texts of this seat one behind the other: NearF, Poll, Votes, Sup. Conditions: none. -/
import Derived.Test.YtgebplpbnaeckaaGreatDoorMg03
import Derived.Test.YtgebplpbnaeckaaGreatDoorMg02
import Derived.Test.YtgebplpbnaeckaaGreatDoorMg04
import Derived.Test.YtgebplpbnaeckaaGreatDoorMg01
import Derived.Test.YtgebplpbnaeckaaGreatDoorMg05
import Derived.Outline
import Derived.Deep.RegionHeld3
import Derived.Deep.RegionWith
import Derived.RegionTactic
import Derived.BigRegion

/- NearF: The model's nearest, for whatever is to be least; the judgments than which no other one is better. -/
namespace Go.Proofs.YtgebplpbnaeckaaGreatDoor
open Go.RowKit Go.Joins

/-- the least of the first k -/
def leastF (f : Int → Nat) (zs : List Int) : Nat → Nat
  | 0 => f (zs.getD 0 0)
  | k + 1 => min (leastF f zs k) (f (zs.getD k 0))
def nearF (f : Int → Nat) (zs : List Int) (y : Int) : Bool := f y == leastF f zs zs.length
theorem leastF_le (f : Int → Nat) (zs : List Int) : ∀ (k j : Nat), j < k → leastF f zs k ≤ f (zs.getD j 0)
  | 0, j, h => by omega
  | k + 1, j, h => by
    unfold leastF
    rcases Nat.lt_or_ge j k with hlt | hge
    · exact Nat.le_trans (Nat.min_le_left _ _) (leastF_le f zs k j hlt)
    · obtain rfl : j = k := by omega
      exact Nat.min_le_right _ _
theorem leastF_at (f : Int → Nat) (zs : List Int) (hpos : 0 < zs.length) : ∀ k, k ≤ zs.length → ∃ z ∈ zs, leastF f zs k = f z
  | 0, _ => ⟨zs[0], mem_of_at hpos, by unfold leastF; rw [getD_lt hpos]⟩
  | k + 1, h => by
    obtain ⟨z, hz, e⟩ := leastF_at f zs hpos k (by omega)
    unfold leastF
    rcases Nat.le_total (leastF f zs k) (f (zs.getD k 0)) with hle | hle
    · exact ⟨z, hz, by rw [Nat.min_eq_left hle]; exact e⟩
    · refine ⟨zs[k], mem_of_at h, ?_⟩
      rw [Nat.min_eq_right hle, getD_lt (show k < zs.length from h)]
/-- the judgments than which by b no other one is better -/
def unbP (b : Int → Int → Bool) (zs : List Int) (x : Int) : Bool := !(zs.any fun y => b y x)
def unbL (b : Int → Int → Bool) (zs : List Int) : List Int := zs.filter (unbP b zs)
theorem unbP_no {b : Int → Int → Bool} {zs : List Int} {x : Int} (h : ∃ y ∈ zs, b y x = true) : unbP b zs x = false := by
  unfold unbP
  rw [Bool.not_eq_false', List.any_eq_true]
  exact h
theorem unbP_yes {b : Int → Int → Bool} {zs : List Int} {x : Int} (h : ∀ y ∈ zs, b y x = false) : unbP b zs x = true := by
  unfold unbP
  rw [Bool.not_eq_true', List.any_eq_false]
  intro y hy
  rw [h y hy]; decide
theorem unb_congr {b c : Int → Int → Bool} {zs : List Int} (h : ∀ x ∈ zs, ∀ y ∈ zs, b y x = c y x) : unbL b zs = unbL c zs := by
  unfold unbL
  refine List.filter_congr fun x hx => ?_
  unfold unbP
  rw [Bool.not_inj_iff, Bool.eq_iff_iff, List.any_eq_true, List.any_eq_true]
  exact ⟨fun ⟨y, hy, e⟩ => ⟨y, hy, by rw [← h x hx y hy]; exact e⟩, fun ⟨y, hy, e⟩ => ⟨y, hy, by rw [h x hx y hy]; exact e⟩⟩
theorem unb_near (f : Int → Nat) (zs : List Int) : unbL (fun y x => decide (f y < f x)) zs = zs.filter (nearF f zs) := by
  unfold unbL
  refine List.filter_congr fun x hx => ?_
  obtain ⟨j, hj, rfl⟩ := List.getElem_of_mem hx
  have hle := leastF_le f zs zs.length j hj
  rw [getD_lt hj] at hle
  obtain ⟨z, hz, e⟩ := leastF_at f zs (by omega) zs.length (Nat.le_refl _)
  unfold nearF unbP
  rw [Bool.eq_iff_iff, Bool.not_eq_true', List.any_eq_false, beq_iff_eq]
  refine ⟨fun h => ?_, fun h y hy => ?_⟩
  · have := h z hz
    simp only [decide_eq_true_eq] at this
    omega
  · obtain ⟨i, hi, rfl⟩ := List.getElem_of_mem hy
    have := leastF_le f zs zs.length i hi
    rw [getD_lt hi] at this
    simp only [decide_eq_true_eq]
    omega
/-- the distances of all of a list -/
def farL (f : Int → Nat) (zs : List Int) : List Int := zs.map fun y => (f y : Int)
theorem farL_length (f : Int → Nat) (zs : List Int) : (farL f zs).length = zs.length := by simp [farL]
theorem farL_getD (f : Int → Nat) (zs : List Int) (k : Nat) (hk : k < zs.length) : (farL f zs).getD k 0 = (f zs[k] : Int) := by
  simp [farL, List.getD_eq_getElem?_getD, hk]
theorem farL_take (f : Int → Nat) (zs : List Int) (k : Nat) (hk : k < zs.length) : farL f (zs.take (k + 1)) = farL f (zs.take k) ++ [(f zs[k] : Int)] := by
  unfold farL
  rw [List.take_add_one, List.getElem?_eq_getElem hk, List.map_append]
  rfl

set_option maxHeartbeats 2000000 in
set_option maxRecDepth 100000 in
theorem nearestF_any (f : Int → Nat) (n : Int) (a l : Option Addr) (cap capl : Nat) (zs : List Int) (w : World) (hi : Ints w a zs) (hj : Ints w l (farL f zs)) (hn : zs.length ≤ 1048576) (hpos : 0 < zs.length) :
    Calls Tryz.prog 66 #[.agg #[.int .i64 n, .slice a zs.length cap], .slice l zs.length capl] w (Gives (zs.filter (nearF f zs)) w) := by
  obtain ⟨i0, hi0, hz0, hz1, hz2⟩ := info_parts info_int
  have S0 := SV.new w n a zs cap l (farL f zs) 37 hi hj
  clear hi hj
  obtain ⟨⟨_, c0, c1⟩, _, il, _⟩ := S0.pair
  obtain ⟨lb, lo, rfl, hlb, hlc⟩ := il (by rw [farL_length]; exact hpos)
  have hl0 := hlc 0 (by rw [farL_length]; exact hpos)
  rw [farL_getD f zs 0 hpos, Nat.add_zero] at hl0
  have HLC := hide hlc
  simp only [World.size_alloc] at hlb
  obtain ⟨wb, hwb⟩ : ∃ wb : World, wb = w.alloc (.cells #[.int .i64 n, .slice a zs.length cap] 37) := ⟨_, rfl⟩
  have S1 : SV w n a zs cap (some ⟨lb, lo, none⟩) (farL f zs) wb := by rw [hwb]; exact S0
  have HLC' : Hid (∀ k, k < (farL f zs).length → wb.cell? ⟨lb, lo + k, none⟩ = some (.int .i64 ((farL f zs).getD k 0))) := by rw [hwb]; exact HLC
  have hlb' : lb < wb.heap.size := by rw [hwb]; simpa using hlb
  have BB : Below wb.heap.size wb ((w.alloc (.cells #[.int .i64 n, .slice a zs.length cap] 37)).alloc (.cells #[] 3)) := by rw [← hwb]; exact bel1 _ _
  have ho0 : Owns ((w.alloc (.cells #[.int .i64 n, .slice a zs.length cap] 37)).alloc (.cells #[] 3)) wb.heap.size (.slice (some ⟨w.heap.size + 1, 0, none⟩) 0 0) [] := by
    rw [← hwb]
    have h := World.ownsRow_lit (base := wb.heap.size) (e := 3) (size := 1) wb #[] 0 (Nat.le_refl _) (by simp) rfl
    have e : wb.heap.size = w.heap.size + 1 := by rw [hwb]; simp
    rw [e] at h ⊢
    exact h
  clear hwb S0 HLC hlc il
  go_enter Tryz.func66, Tryz.ntmps66
  go_wp2_with fail
  go_loopw [6, 7] (fun b i wr => ∃ k : Nat, k ≤ zs.length ∧ i = .int .i64 k ∧ b = .int .i64 (leastF f zs k : Nat) ∧ Owns wr wb.heap.size (.slice (some ⟨w.heap.size + 1, 0, none⟩) 0 0) [] ∧ Below wb.heap.size wb wr) (fun _ i _ => zs.length - (intOf i).toNat)
  case atStart => exact ⟨0, Nat.zero_le _, rfl, by rw [show leastF f zs 0 = f zs[0] from by rw [leastF, getD_lt hpos]], ho0, BB⟩
  case round =>
    clear ho0 BB c0 c1 hl0
    obtain ⟨k, hk, rfl, rfl, hown, BR⟩ := hrel
    by_cases hlt : k < zs.length
    · have hck := (BR.cell (p := ⟨lb, lo + k, none⟩) hlb').trans (HLC'.out k (by rw [farL_length]; exact hlt))
      rw [farL_getD f zs k hlt] at hck
      have hk1 := hide (show leastF f zs (k + 1) = min (leastF f zs k) (f zs[k]) from by rw [leastF, getD_lt hlt])
      by_cases hm : leastF f zs k ≤ f zs[k]
      · go_wp2
        go_roundw
        case rel => exact ⟨k + 1, by omega, by go_num, by rw [hk1.out, Nat.min_eq_left hm]; try exact congrArg (Value.int IntKind.i64) (by omega), hown, BR⟩
        case measure => simp only [intOf]; omega
      · have hm' : f zs[k] ≤ leastF f zs k := by omega
        go_wp2
        go_roundw
        case rel => exact ⟨k + 1, by omega, by go_num, by rw [hk1.out, Nat.min_eq_right hm']; try exact congrArg (Value.int IntKind.i64) (by omega), hown, BR⟩
        case measure => simp only [intOf]; omega
    · obtain rfl : k = zs.length := by omega
      obtain ⟨wo, rfl⟩ : ∃ wo : World, wo = wr := ⟨_, rfl⟩
      go_wp2
      go_loopw [5, 8] (fun v i wr => ∃ k : Nat, k ≤ zs.length ∧ i = .int .i64 k ∧ Owns wr wb.heap.size v ((zs.take k).filter (nearF f zs)) ∧ Below wb.heap.size wb wr) (fun _ i _ => zs.length - (intOf i).toNat)
      case atStart => exact ⟨0, Nat.zero_le _, rfl, hown, BR⟩
      case round =>
        clear hown BR
        obtain ⟨k, hk, rfl, hown, BR⟩ := hrel
        obtain ⟨⟨_, c0, c1⟩, iz, _, _⟩ := (S1.below BR).pair
        by_cases hlt : k < zs.length
        · obtain ⟨b, off, rfl, hbl, hc⟩ := iz (by omega)
          have hck := hc k hlt
          rw [getD_lt hlt] at hck
          have hdk := (BR.cell (p := ⟨lb, lo + k, none⟩) hlb').trans (HLC'.out k (by rw [farL_length]; exact hlt))
          rw [farL_getD f zs k hlt] at hdk
          have hft := hide (filter_take (nearF f zs) zs k hlt)
          have hle := filter_le (nearF f zs) zs k
          have hp : nearF f zs zs[k] = (f zs[k] == leastF f zs zs.length) := rfl
          have hsz := BR.size
          clear hc iz
          by_cases he : nearF f zs zs[k] = true
          · have HE := hide he
            have hE : ((f zs[k] : Int) == (leastF f zs zs.length : Int)) = true := by
              rw [hp, beq_iff_eq] at he; rw [beq_iff_eq]; omega
            clear he hp
            go_wp2_with ((at_builtin; refine wpList_append_own _ rfl _ _ 35 rfl wb.heap.size 3 i0 (.int .i64 0) 1 8 Tryz.underlying35 hi0 hz0 hz1 hz2 rfl (by decide) _ _ _ rfl (hown.alloc _) ⟨wr.heap.size, 0, none⟩ 1 1 [.int .i64 zs[k]] rfl rfl ?c1 ?c2 ?c3 ?c4 ?c5 ?_))
            case c1 => exact cell_one_new _ _ _
            case c2 => intro u hu; simp at hu; subst hu; rfl
            case c3 => unfold maxLen; omega
            case c4 => omega
            case c5 => simp; omega
            intro v' w2 hown' hgrow _
            have hpush := hide (Owns.push hown')
            have hbel : Below wb.heap.size wb w2 := (BR.alloc hsz _).grown hgrow (by simp; omega) (fun j hj => own_ge hown j hj)
            clear hown' hgrow hown
            go_wp2
            go_roundw
            case rel => exact ⟨k + 1, by omega, by go_num, by rw [hft.out, if_pos HE.out]; exact hpush.out, hbel⟩
            case measure => simp only [intOf]; omega
          · have he : nearF f zs zs[k] = false := by simpa using he
            have HE := hide he
            have hE : ((f zs[k] : Int) == (leastF f zs zs.length : Int)) = false := by
              rw [hp, beq_eq_false_iff_ne] at he; rw [beq_eq_false_iff_ne]; omega
            clear he hp
            go_wp2
            go_roundw
            case rel => exact ⟨k + 1, by omega, by go_num, by rw [hft.out, if_neg (by rw [HE.out]; decide), List.append_nil]; exact hown, BR⟩
            case measure => simp only [intOf]; omega
        · obtain rfl : k = zs.length := by omega
          have hw := S1.2.2.2
          go_wp2
          go_ret
          exact ⟨_, rfl, by rw [List.take_length] at hown; exact hown.le hw.size, bnext hw BR⟩

end Go.Proofs.YtgebplpbnaeckaaGreatDoor

/- Poll: What the four rules of a poll hold better: gaps from all votes, from the farthest vote, the answers that are lost. -/
namespace Go.Proofs.YtgebplpbnaeckaaGreatDoor
open Go.RowKit Go.Joins

/-- how far a judgment is from a vote -/
def gp (x v : Int) : Nat := wt (x.toNat ^^^ v.toNat)
theorem gp_le (x v : Int) : gp x v ≤ 4 := wt_le _
theorem gp_comm (x v : Int) : gp x v = gp v x := by unfold gp; rw [Nat.xor_comm]
theorem gp_imp {x v : Int} (w : World) (hx : 0 ≤ x ∧ x ≤ 15) (hv : 0 ≤ v ∧ v ≤ 15) : Calls Tryz.prog 161 #[.int .i64 x, .int .i64 v] w fun e w' => e = .returned (.int .i64 (gp x v : Nat)) ∧ w = w' := by
  refine (implGapOf_any x v w).mono ?_
  rintro e w' ⟨he, hw⟩
  refine ⟨he.trans (ret_int ?_), hw⟩
  unfold gapV gp
  rw [if_pos ⟨hx, hv⟩]
theorem gp_spec {x v : Int} (w : World) (hx : 0 ≤ x ∧ x ≤ 15) (hv : 0 ≤ v ∧ v ≤ 15) : Calls Tryz.prog 94 #[.int .i64 v, .int .i64 x] w fun e w' => e = .returned (.int .i64 (gp x v : Nat)) ∧ w = w' := by
  obtain ⟨a, rfl⟩ := Int.eq_ofNat_of_zero_le hx.1
  obtain ⟨b, rfl⟩ := Int.eq_ofNat_of_zero_le hv.1
  have h := gap_any b a w (by omega) (by omega)
  rw [gp_comm]
  exact h

def totK (vs : List Int) (x : Int) : Nat → Nat
  | 0 => 0
  | k + 1 => totK vs x k + gp x (vs.getD k 0)
theorem totK_le (vs : List Int) (x : Int) : ∀ k, totK vs x k ≤ 4 * k
  | 0 => Nat.le_refl _
  | k + 1 => by have := totK_le vs x k; have := gp_le x (vs.getD k 0); unfold totK; omega
def totN (vs : List Int) (x : Int) : Nat := totK vs x vs.length
def farK (vs : List Int) (x : Int) : Nat → Nat
  | 0 => 0
  | k + 1 => max (farK vs x k) (gp x (vs.getD k 0))
theorem farK_le (vs : List Int) (x : Int) : ∀ k, farK vs x k ≤ 4
  | 0 => Nat.zero_le _
  | k + 1 => by have := farK_le vs x k; have := gp_le x (vs.getD k 0); unfold farK; omega
def farN (vs : List Int) (x : Int) : Nat := farK vs x vs.length
/-- the wanted answers that a judgment does not give -/
def lostN (c b : Nat) (x : Int) : Nat := (x.toNat ^^^ b) &&& c
theorem lostN_lt {c b : Nat} (x : Int) (hc : c < 16) : lostN c b x < 16 := Nat.lt_of_le_of_lt Nat.and_le_right hc
def keptB (c b : Nat) (y x : Int) : Bool := (lostN c b y &&& lostN c b x == lostN c b y) && (lostN c b y != lostN c b x)
def moreB (c b : Nat) (y x : Int) : Bool := decide (wt (lostN c b y) < wt (lostN c b x))

/-- A poll in a variable. -/
def PollBox (w : World) (g : Nat) (n : Int) (a l : Option Addr) (len cap m capl : Nat) (C B : Int) : Prop :=
  g < w.heap.size ∧ w.cell? ⟨g, 0, none⟩ = some (.int .i64 n) ∧ w.cell? ⟨g, 1, none⟩ = some (.slice a len cap) ∧ w.cell? ⟨g, 2, none⟩ = some (.slice l m capl) ∧ w.cell? ⟨g, 3, none⟩ = some (.int .i64 C) ∧ w.cell? ⟨g, 4, none⟩ = some (.int .i64 B)
theorem PollBox.below {w w' : World} {g : Nat} {n : Int} {a l : Option Addr} {len cap m capl : Nat} {C B : Int} (h : PollBox w g n a l len cap m capl C B) (hb : Below w.heap.size w w') : PollBox w' g n a l len cap m capl C B :=
  ⟨Nat.lt_of_lt_of_le h.1 hb.size, (hb.cell (p := ⟨g, 0, none⟩) h.1).trans h.2.1, (hb.cell (p := ⟨g, 1, none⟩) h.1).trans h.2.2.1, (hb.cell (p := ⟨g, 2, none⟩) h.1).trans h.2.2.2.1,
    (hb.cell (p := ⟨g, 3, none⟩) h.1).trans h.2.2.2.2.1, (hb.cell (p := ⟨g, 4, none⟩) h.1).trans h.2.2.2.2.2⟩
theorem PollBox.new (w : World) (n : Int) (a l : Option Addr) (len cap m capl : Nat) (C B : Int) : PollBox (w.alloc (.cells #[.int .i64 n, .slice a len cap, .slice l m capl, .int .i64 C, .int .i64 B] 165)) w.heap.size n a l len cap m capl C B :=
  ⟨by simp, by simp [go_sem], by simp [go_sem], by simp [go_sem], by simp [go_sem], by simp [go_sem]⟩
theorem PollBox.drew {w : World} {g : Nat} {n : Int} {a l : Option Addr} {len cap m capl : Nat} {C B : Int} (h : PollBox w g n a l len cap m capl C B) : PollBox w.drew g n a l len cap m capl C B := h.below (bdrew' (Below.refl _ _))
theorem PollBox.cells {w : World} {g : Nat} {n : Int} {a l : Option Addr} {len cap m capl : Nat} {C B : Int} (h : PollBox w g n a l len cap m capl C B) :
    w.cell? ⟨g, 0, none⟩ = some (.int .i64 n) ∧ w.cell? ⟨g, 1, none⟩ = some (.slice a len cap) ∧ w.cell? ⟨g, 2, none⟩ = some (.slice l m capl) ∧ w.cell? ⟨g, 3, none⟩ = some (.int .i64 C) ∧ w.cell? ⟨g, 4, none⟩ = some (.int .i64 B) := h.2

set_option maxHeartbeats 1000000 in
theorem nearerAll_any (n : Int) (a l : Option Addr) (len cap capl : Nat) (vs : List Int) (C B : Int) (y x : Int) (w : World) (hj : Ints w l vs) (h5 : vs.length ≤ 5) (hr : ∀ v ∈ vs, 0 ≤ v ∧ v ≤ 15) (hy : 0 ≤ y ∧ y ≤ 15) (hx : 0 ≤ x ∧ x ≤ 15) :
    Calls Tryz.prog 136 #[.agg #[.int .i64 n, .slice a len cap, .slice l vs.length capl, .int .i64 C, .int .i64 B], .int .i64 y, .int .i64 x] w
      fun e w' => e = .returned (.bool (decide (totN vs y < totN vs x))) ∧ Below w.heap.size w w' := by
  have il := hj.below (bel1 w (.cells #[.int .i64 n, .slice a len cap, .slice l vs.length capl, .int .i64 C, .int .i64 B] 165))
  have HR := hide hr
  have HX := hide hx
  have HY := hide hy
  clear hj hr hx hy
  go_enter Tryz.func136, Tryz.ntmps136
  go_wp2_with fail
  go_loop [7, 13] (fun s i => ∃ k : Nat, k ≤ vs.length ∧ i = .int .i64 k ∧ s = .int .i64 ((totK vs y k : Int) - (totK vs x k : Int))) (fun _ i => vs.length - (intOf i).toNat)
  case atStart => exact ⟨0, Nat.zero_le _, rfl, rfl⟩
  case round =>
    obtain ⟨k, hk, rfl, rfl⟩ := hrel
    have b1 := totK_le vs y k
    have b2 := totK_le vs x k
    by_cases hlt : k < vs.length
    · obtain ⟨b, off, rfl, hbl, hc⟩ := il (by omega)
      have hck := hc k hlt
      rw [getD_lt hlt] at hck
      have g1 := gp_le y vs[k]
      have g2 := gp_le x vs[k]
      have H1 := hide (show totK vs y (k + 1) = totK vs y k + gp y vs[k] from by rw [totK, getD_lt hlt])
      have H2 := hide (show totK vs x (k + 1) = totK vs x k + gp x vs[k] from by rw [totK, getD_lt hlt])
      clear hc il
      go_wp2_with (first
        | (go_at_call 161; (with_reducible refine (gp_imp (x := y) _ HY.out (HR.out _ (mem_of_at hlt))).mono ?_); rintro e w' ⟨rfl, rfl⟩)
        | (go_at_call 161; (with_reducible refine (gp_imp (x := x) _ HX.out (HR.out _ (mem_of_at hlt))).mono ?_); rintro e w' ⟨rfl, rfl⟩))
      go_round
      case rel => exact ⟨k + 1, by omega, by go_num, by rw [H1.out, H2.out]; go_num⟩
      case measure => simp only [intOf]; omega
    · obtain rfl : k = vs.length := by omega
      go_wp2
      go_ret
      refine ⟨ret_bool ?_, bel1 w _⟩
      unfold totN
      rw [Bool.eq_iff_iff, decide_eq_true_eq, decide_eq_true_eq]
      omega

set_option maxHeartbeats 1000000 in
theorem greatestGap_any (n : Int) (a l : Option Addr) (len cap capl : Nat) (vs : List Int) (C B : Int) (x : Int) (w : World) (hj : Ints w l vs) (h5 : vs.length ≤ 5) (hr : ∀ v ∈ vs, 0 ≤ v ∧ v ≤ 15) (hx : 0 ≤ x ∧ x ≤ 15) :
    Calls Tryz.prog 162 #[.agg #[.int .i64 n, .slice a len cap, .slice l vs.length capl, .int .i64 C, .int .i64 B], .int .i64 x] w
      fun e w' => e = .returned (.int .i64 (farN vs x : Nat)) ∧ Below w.heap.size w w' := by
  have il := hj.below (bel1 w (.cells #[.int .i64 n, .slice a len cap, .slice l vs.length capl, .int .i64 C, .int .i64 B] 165))
  have HR := hide hr
  have HX := hide hx
  clear hj hr hx
  go_enter Tryz.func162, Tryz.ntmps162
  go_wp2_with fail
  go_loop [5, 11] (fun s i => ∃ k : Nat, k ≤ vs.length ∧ i = .int .i64 k ∧ s = .int .i64 (farK vs x k : Nat)) (fun _ i => vs.length - (intOf i).toNat)
  case atStart => exact ⟨0, Nat.zero_le _, rfl, rfl⟩
  case round =>
    obtain ⟨k, hk, rfl, rfl⟩ := hrel
    have b1 := farK_le vs x k
    by_cases hlt : k < vs.length
    · obtain ⟨b, off, rfl, hbl, hc⟩ := il (by omega)
      have hck := hc k hlt
      rw [getD_lt hlt] at hck
      have g1 := gp_le x vs[k]
      have H1 := hide (show farK vs x (k + 1) = max (farK vs x k) (gp x vs[k]) from by rw [farK, getD_lt hlt])
      clear hc il
      by_cases hm : farK vs x k < gp x vs[k]
      · go_wp2_with (go_at_call 161; refine (gp_imp (x := x) _ HX.out (HR.out _ (mem_of_at hlt))).mono ?_; rintro e w' ⟨rfl, rfl⟩)
        go_round
        case rel => exact ⟨k + 1, by omega, by go_num, by rw [H1.out, Nat.max_eq_right (Nat.le_of_lt hm)]⟩
        case measure => simp only [intOf]; omega
      · have hm' : gp x vs[k] ≤ farK vs x k := by omega
        go_wp2_with (go_at_call 161; refine (gp_imp (x := x) _ HX.out (HR.out _ (mem_of_at hlt))).mono ?_; rintro e w' ⟨rfl, rfl⟩)
        go_round
        case rel => exact ⟨k + 1, by omega, by go_num, by rw [H1.out, Nat.max_eq_left hm']⟩
        case measure => simp only [intOf]; omega
    · obtain rfl : k = vs.length := by omega
      go_wp2
      go_ret
      exact ⟨rfl, bel1 w _⟩

theorem lost_bits : ∀ x b c : Fin 16, bits .and .i64 (bits .xor .i64 ((x.val : Nat) : Int) ((b.val : Nat) : Int)) ((c.val : Nat) : Int) = (((x.val ^^^ b.val) &&& c.val : Nat) : Int) := by decide +kernel

theorem lost_any (n : Int) (a l : Option Addr) (len cap m capl : Nat) (c b : Nat) (x : Int) (w : World) (hc : c < 16) (hb : b < 16) (hx : 0 ≤ x ∧ x ≤ 15) :
    Calls Tryz.prog 163 #[.agg #[.int .i64 n, .slice a len cap, .slice l m capl, .int .i64 c, .int .i64 b], .int .i64 x] w
      fun e w' => e = .returned (.int .i64 (lostN c b x : Nat)) ∧ Below w.heap.size w w' := by
  obtain ⟨z, rfl⟩ := Int.eq_ofNat_of_zero_le hx.1
  have hz : z < 16 := by omega
  have h := hide (lost_bits ⟨z, hz⟩ ⟨b, hb⟩ ⟨c, hc⟩)
  have hx1 := xor_small z b hz hb
  clear hx
  go_enter Tryz.func163, Tryz.ntmps163
  go_wp2
  go_ret
  refine ⟨ret_int ?_, bel1 w _⟩
  have h' : bits .and .i64 (bits .xor .i64 (z : Int) (b : Int)) (c : Int) = (((z ^^^ b) &&& c : Nat) : Int) := h.out
  rw [hx1] at h'
  exact h'

set_option maxHeartbeats 2000000 in
theorem nearerFar_any (n : Int) (a l : Option Addr) (len cap capl : Nat) (vs : List Int) (C B : Int) (y x : Int) (w : World) (hj : Ints w l vs) (h5 : vs.length ≤ 5) (hr : ∀ v ∈ vs, 0 ≤ v ∧ v ≤ 15) (hy : 0 ≤ y ∧ y ≤ 15) (hx : 0 ≤ x ∧ x ≤ 15) :
    Calls Tryz.prog 137 #[.agg #[.int .i64 n, .slice a len cap, .slice l vs.length capl, .int .i64 C, .int .i64 B], .int .i64 y, .int .i64 x] w
      fun e w' => e = .returned (.bool (decide (farN vs y < farN vs x))) ∧ Below w.heap.size w w' := by
  have P0 := (PollBox.new w n a l len cap vs.length capl C B).drew
  have I0 := hj.below (bdrew' (bel1 w (.cells #[.int .i64 n, .slice a len cap, .slice l vs.length capl, .int .i64 C, .int .i64 B] 165)))
  have B0 := bdrew' (bel1 w (.cells #[.int .i64 n, .slice a len cap, .slice l vs.length capl, .int .i64 C, .int .i64 B] 165))
  have HR := hide hr
  have HX := hide hx
  have HY := hide hy
  have c0 := P0.cells
  clear hj hr hx hy
  go_enter Tryz.func137, Tryz.ntmps137
  go_wp2_with fail
  go_region_held3 (fun w' => w'.cell? ⟨w.heap.size, 0, none⟩ = some (.int .i64 n) ∧ w'.cell? ⟨w.heap.size, 1, none⟩ = some (.slice a len cap) ∧ w'.cell? ⟨w.heap.size, 2, none⟩ = some (.slice l vs.length capl) ∧ w'.cell? ⟨w.heap.size, 3, none⟩ = some (.int .i64 C) ∧ w'.cell? ⟨w.heap.size, 4, none⟩ = some (.int .i64 B))
    (first
      | exact c0
      | exact P0.cells
      | go_keep)
    (first
      | (go_at_call 162; (with_reducible refine (greatestGap_any n a l len cap capl vs C B y _ I0 h5 HR.out HY.out).mono ?_); rintro e wq ⟨rfl, hbq⟩; replace P0 := P0.below hbq; replace I0 := I0.below hbq; replace B0 := bnext B0 hbq)
      | (go_at_call 162; (with_reducible refine (greatestGap_any n a l len cap capl vs C B x _ I0 h5 HR.out HX.out).mono ?_); rintro e wq ⟨rfl, hbq⟩; replace P0 := P0.below hbq; replace I0 := I0.below hbq; replace B0 := bnext B0 hbq))
  all_goals
    go_wp2
    go_ret
    exact ⟨rfl, B0⟩

theorem andnot_bits : ∀ p q : Fin 16, (bits .andNot .i64 ((p.val : Nat) : Int) ((q.val : Nat) : Int) == 0) = (p.val &&& q.val == p.val) := by decide +kernel
theorem keptB_no {c b : Nat} {y x : Int} (h : (lostN c b y &&& lostN c b x == lostN c b y) = false) : keptB c b y x = false := by unfold keptB; rw [h]; rfl
theorem keptB_yes {c b : Nat} {y x : Int} (h : (lostN c b y &&& lostN c b x == lostN c b y) = true) : keptB c b y x = (lostN c b y != lostN c b x) := by unfold keptB; rw [h]; rfl
theorem onesP_was (x : Nat) (y : Int) (w : World) (hy : y = (x : Int)) (hx : x < 16) : Calls Tryz.prog 122 #[.int .u64 y] w fun e w' => e = .returned (.int .i64 (wt x : Nat)) ∧ w = w' := by
  subst hy
  exact onesCount_any x w hx

set_option maxHeartbeats 4000000 in
theorem keepsAll_any (n : Int) (a l : Option Addr) (len cap m capl : Nat) (c b : Nat) (y x : Int) (w : World) (hc : c < 16) (hb : b < 16) (hy : 0 ≤ y ∧ y ≤ 15) (hx : 0 ≤ x ∧ x ≤ 15) :
    Calls Tryz.prog 138 #[.agg #[.int .i64 n, .slice a len cap, .slice l m capl, .int .i64 c, .int .i64 b], .int .i64 y, .int .i64 x] w
      fun e w' => e = .returned (.bool (keptB c b y x)) ∧ Below w.heap.size w w' := by
  have P0 := (PollBox.new w n a l len cap m capl c b).drew
  have B0 := bdrew' (bel1 w (.cells #[.int .i64 n, .slice a len cap, .slice l m capl, .int .i64 c, .int .i64 b] 165))
  have HX := hide hx
  have HY := hide hy
  have c0 := P0.cells
  have hA := andnot_bits ⟨lostN c b y, lostN_lt y hc⟩ ⟨lostN c b x, lostN_lt x hc⟩
  simp only at hA
  clear hx hy
  by_cases hk : (lostN c b y &&& lostN c b x == lostN c b y) = true
  · have HK := hide (keptB_yes hk)
    rw [hk] at hA
    clear hk
    go_enter Tryz.func138, Tryz.ntmps138
    go_wp2_with fail
    go_region_held3 (fun w' => w'.cell? ⟨w.heap.size, 0, none⟩ = some (.int .i64 n) ∧ w'.cell? ⟨w.heap.size, 1, none⟩ = some (.slice a len cap) ∧ w'.cell? ⟨w.heap.size, 2, none⟩ = some (.slice l m capl) ∧ w'.cell? ⟨w.heap.size, 3, none⟩ = some (.int .i64 c) ∧ w'.cell? ⟨w.heap.size, 4, none⟩ = some (.int .i64 b))
      (first
        | exact c0
        | exact P0.cells
        | go_keep)
      (first
        | (go_at_call 163; (with_reducible refine (lost_any n a l len cap m capl c b y _ hc hb HY.out).mono ?_); rintro e wq ⟨rfl, hbq⟩; replace P0 := P0.below hbq; replace B0 := bnext B0 hbq)
        | (go_at_call 163; (with_reducible refine (lost_any n a l len cap m capl c b x _ hc hb HX.out).mono ?_); rintro e wq ⟨rfl, hbq⟩; replace P0 := P0.below hbq; replace B0 := bnext B0 hbq))
    all_goals
      go_wp2
      go_ret
      refine ⟨ret_bool ?_, B0⟩
      rw [HK.out, Bool.eq_iff_iff, bne_iff_ne, bne_iff_ne]
      omega
  · have hk : (lostN c b y &&& lostN c b x == lostN c b y) = false := by simpa using hk
    have HK := hide (keptB_no hk)
    rw [hk] at hA
    clear hk
    go_enter Tryz.func138, Tryz.ntmps138
    go_wp2_with fail
    first
      | go_region_with ((first
        | (go_at_call 163; (with_reducible refine (lost_any n a l len cap m capl c b y _ hc hb HY.out).mono ?_); rintro e wq ⟨rfl, hbq⟩; replace P0 := P0.below hbq; obtain ⟨d0, d1, d2, d3, d4⟩ := P0.cells; replace B0 := bnext B0 hbq)
        | (go_at_call 163; (with_reducible refine (lost_any n a l len cap m capl c b x _ hc hb HX.out).mono ?_); rintro e wq ⟨rfl, hbq⟩; replace P0 := P0.below hbq; obtain ⟨d0, d1, d2, d3, d4⟩ := P0.cells; replace B0 := bnext B0 hbq)))
      | fail
    all_goals
      go_wp2
      go_ret
      exact ⟨ret_bool HK.out.symm, B0⟩

set_option maxHeartbeats 4000000 in
theorem keepsMore_any (n : Int) (a l : Option Addr) (len cap m capl : Nat) (c b : Nat) (y x : Int) (w : World) (hc : c < 16) (hb : b < 16) (hy : 0 ≤ y ∧ y ≤ 15) (hx : 0 ≤ x ∧ x ≤ 15) :
    Calls Tryz.prog 139 #[.agg #[.int .i64 n, .slice a len cap, .slice l m capl, .int .i64 c, .int .i64 b], .int .i64 y, .int .i64 x] w
      fun e w' => e = .returned (.bool (moreB c b y x)) ∧ Below w.heap.size w w' := by
  have P0 := (PollBox.new w n a l len cap m capl c b).drew
  have B0 := bdrew' (bel1 w (.cells #[.int .i64 n, .slice a len cap, .slice l m capl, .int .i64 c, .int .i64 b] 165))
  have HX := hide hx
  have HY := hide hy
  have c0 := P0.cells
  have hy16 := hide (lostN_lt (b := b) y hc)
  have hx16 := hide (lostN_lt (b := b) x hc)
  have HU1 := hide (show IntKind.u64.wrap (lostN c b y : Int) = (lostN c b y : Int) from by have := hy16.out; unfold IntKind.wrap; simp [IntKind.bits, IntKind.signed]; omega)
  have HU2 := hide (show IntKind.u64.wrap (lostN c b x : Int) = (lostN c b x : Int) from by have := hx16.out; unfold IntKind.wrap; simp [IntKind.bits, IntKind.signed]; omega)
  clear hx hy
  go_enter Tryz.func139, Tryz.ntmps139
  go_wp2_with fail
  go_region_held3 (fun w' => w'.cell? ⟨w.heap.size, 0, none⟩ = some (.int .i64 n) ∧ w'.cell? ⟨w.heap.size, 1, none⟩ = some (.slice a len cap) ∧ w'.cell? ⟨w.heap.size, 2, none⟩ = some (.slice l m capl) ∧ w'.cell? ⟨w.heap.size, 3, none⟩ = some (.int .i64 c) ∧ w'.cell? ⟨w.heap.size, 4, none⟩ = some (.int .i64 b))
    (first
      | exact c0
      | exact P0.cells
      | go_keep)
    (first
      | (go_at_call 163; (with_reducible refine (lost_any n a l len cap m capl c b y _ hc hb HY.out).mono ?_); rintro e wq ⟨rfl, hbq⟩; replace P0 := P0.below hbq; replace B0 := bnext B0 hbq)
      | (go_at_call 163; (with_reducible refine (lost_any n a l len cap m capl c b x _ hc hb HX.out).mono ?_); rintro e wq ⟨rfl, hbq⟩; replace P0 := P0.below hbq; replace B0 := bnext B0 hbq)
      | (go_at_call 122; (with_reducible refine (onesP_was (lostN c b y) _ _ HU1.out hy16.out).mono ?_); rintro e w' ⟨rfl, rfl⟩)
      | (go_at_call 122; (with_reducible refine (onesP_was (lostN c b x) _ _ HU2.out hx16.out).mono ?_); rintro e w' ⟨rfl, rfl⟩))
  all_goals
    go_wp2
    go_ret
    exact ⟨rfl, B0⟩
end Go.Proofs.YtgebplpbnaeckaaGreatDoor

/- Votes: Votes: slices.ContainsFunc with any test; ValidVotes in the model and in the program. -/
namespace Go.Proofs.YtgebplpbnaeckaaGreatDoor
open Go.RowKit Go.Joins

theorem any_true {p : Int → Bool} {zs : List Int} {k : Nat} (hk : k < zs.length) (h : p zs[k] = true) : zs.any p = true := List.any_eq_true.2 ⟨zs[k], mem_of_at hk, h⟩
theorem any_false {p : Int → Bool} {zs : List Int} (h : ∀ j, j < zs.length → p (zs.getD j 0) = false) : zs.any p = false := by
  rw [List.any_eq_false]
  intro x hx
  obtain ⟨j, hj, rfl⟩ := List.getElem_of_mem hx
  have := h j hj
  rw [getD_lt hj] at this
  simp [this]

/-- What slices.IndexFunc leaves, with a test p. -/
def IdxGPost (p : Int → Bool) (zs : List Int) (w : World) (e : Ending) (w' : World) : Prop :=
  ∃ r : Int, ((zs.any p = true ∧ 0 ≤ r) ∨ (zs.any p = false ∧ r = -1)) ∧ r ≤ 1048576 ∧ e = .returned (.int .i64 r) ∧ Below w.heap.size w w'

set_option maxHeartbeats 1000000 in
theorem indexFuncV_any (p : Int → Bool) (a : Option Addr) (cap g : Nat) (zs : List Int) (w : World) (hi : Ints w a zs) (hn : zs.length ≤ 1048576)
    (hf : ∀ (x : Int) (w' : World), x ∈ zs → Below w.heap.size w w' → Calls Tryz.prog 133 #[.int .i64 x, .pointer (some ⟨g, 0, none⟩)] w' fun e w'' => e = .returned (.bool (p x)) ∧ Below w'.heap.size w' w'') :
    Calls Tryz.prog 156 #[.slice a zs.length cap, .func (.func 133) #[] #[.pointer (some ⟨g, 0, none⟩)]] w (IdxGPost p zs w) := by
  have HF := hide hf
  clear hf
  go_enter Tryz.func156, Tryz.ntmps156
  go_wp2_with fail
  go_loopw [8] (fun i wr => ∃ k : Nat, k ≤ zs.length ∧ i = .int .i64 k ∧ (∀ j, j < k → p (zs.getD j 0) = false) ∧ Below w.heap.size w wr) (fun i _ => zs.length - (intOf i).toNat)
  case atStart => exact ⟨0, Nat.zero_le _, rfl, fun j hj => by omega, Below.refl _ _⟩
  case round =>
    obtain ⟨k, hk, rfl, hall, hb⟩ := hrel
    have HA := hide hall
    clear hall
    by_cases hlt : k < zs.length
    · obtain ⟨bb, off, rfl, hbl, hc⟩ := (hi.below hb) (by omega)
      have hck := hc k hlt
      rw [getD_lt hlt] at hck
      clear hc hi
      by_cases he : p zs[k] = true
      · have HF2 := hide (any_true hlt he)
        have HE := hide he
        clear he
        go_wp2_with fail
        refine (HF.out _ _ (mem_of_at hlt) hb).mono ?_
        rintro e w1 ⟨rfl, h1⟩
        have he := HE.out
        go_wp2
        go_ret
        exact ⟨k, .inl ⟨HF2.out, by omega⟩, by omega, rfl, bnext hb h1⟩
      · have he : p zs[k] = false := by simpa using he
        have HE := hide he
        clear he
        go_wp2_with fail
        refine (HF.out _ _ (mem_of_at hlt) hb).mono ?_
        rintro e w1 ⟨rfl, h1⟩
        have he := HE.out
        go_wp2
        go_roundw
        case rel => exact ⟨k + 1, by omega, by go_num, fun j hj => by
          rcases Nat.lt_or_ge j k with h | h
          · exact HA.out j h
          · obtain rfl : j = k := by omega
            rw [getD_lt hlt]
            exact HE.out, bnext hb h1⟩
        case measure => simp only [intOf]; omega
    · obtain rfl : k = zs.length := by omega
      go_wp2
      go_ret
      exact ⟨-1, .inr ⟨any_false HA.out, rfl⟩, by omega, rfl, hb⟩

set_option maxHeartbeats 1000000 in
theorem containsFuncV_any (p : Int → Bool) (a : Option Addr) (cap g : Nat) (zs : List Int) (w : World) (hi : Ints w a zs) (hn : zs.length ≤ 1048576)
    (hf : ∀ (x : Int) (w' : World), x ∈ zs → Below w.heap.size w w' → Calls Tryz.prog 133 #[.int .i64 x, .pointer (some ⟨g, 0, none⟩)] w' fun e w'' => e = .returned (.bool (p x)) ∧ Below w'.heap.size w' w'') :
    Calls Tryz.prog 124 #[.slice a zs.length cap, .func (.func 133) #[] #[.pointer (some ⟨g, 0, none⟩)]] w fun e w' => e = .returned (.bool (zs.any p)) ∧ Below w.heap.size w w' := by
  have HF := hide hf
  clear hf
  by_cases hm : zs.any p = true
  · have HM := hide hm
    clear hm
    go_enter Tryz.func124, Tryz.ntmps124
    go_wp2_with fail
    refine (indexFuncV_any p _ _ _ _ _ hi hn HF.out).mono ?_
    rintro e w' ⟨r, hr, hr2, rfl, hb⟩
    have h0 : 0 ≤ r := by
      rcases hr with ⟨_, h⟩ | ⟨h, _⟩
      · exact h
      · rw [HM.out] at h; cases h
    clear hr
    go_wp2
    go_ret
    exact ⟨ret_bool HM.out.symm, hb⟩
  · have hm : zs.any p = false := by simpa using hm
    have HM := hide hm
    clear hm
    go_enter Tryz.func124, Tryz.ntmps124
    go_wp2_with fail
    refine (indexFuncV_any p _ _ _ _ _ hi hn HF.out).mono ?_
    rintro e w' ⟨r, hr, hr2, rfl, hb⟩
    have h0 : r < 0 := by
      rcases hr with ⟨h, _⟩ | ⟨_, h⟩
      · rw [HM.out] at h; cases h
      · omega
    clear hr
    go_wp2
    go_ret
    exact ⟨ret_bool (by rw [HM.out]; simp; omega), hb⟩

/-- the votes are judgments of the space, one to five -/
def VotesOk (zs vs : List Int) : Prop := (∀ j, j < vs.length → vs.getD j 0 ∈ zs) ∧ (1 ≤ (vs.length : Int) ∧ (vs.length : Int) ≤ 5)
instance (zs vs : List Int) : Decidable (VotesOk zs vs) := by unfold VotesOk; infer_instance
def votesB (zs vs : List Int) : Bool := decide (VotesOk zs vs)
theorem votesB_true {zs vs : List Int} (h : VotesOk zs vs) : votesB zs vs = true := by simpa [votesB] using h
theorem votesB_false {zs vs : List Int} (h : ¬ VotesOk zs vs) : votesB zs vs = false := by simpa [votesB] using h
theorem votes_of {zs vs : List Int} (h : votesB zs vs = true) : VotesOk zs vs := by simpa [votesB] using h
theorem VotesOk.mem {zs vs : List Int} (h : VotesOk zs vs) : ∀ x ∈ vs, x ∈ zs := by
  intro x hx
  obtain ⟨j, hj, rfl⟩ := List.getElem_of_mem hx
  have := h.1 j hj
  rwa [getD_lt hj] at this
/-- what ValidVotes answers -/
def vvB (n : Int) (zs vs : List Int) : Bool := vsB n zs && votesB zs vs
theorem vvB_no {n : Int} {zs vs : List Int} (h : vsB n zs = false) : vvB n zs vs = false := by unfold vvB; rw [h]; rfl
theorem vvB_yes {n : Int} {zs vs : List Int} (h : vsB n zs = true) : vvB n zs vs = votesB zs vs := by unfold vvB; rw [h]; rfl
theorem vv_of {n : Int} {zs vs : List Int} (h : vvB n zs vs = true) : Valid n zs ∧ VotesOk zs vs := by
  simpa [vvB, vsB, votesB] using h

set_option maxHeartbeats 2000000 in
theorem validVotes_any (n : Int) (a l : Option Addr) (cap capl : Nat) (zs vs : List Int) (w : World) (hi : Ints w a zs) (hj : Ints w l vs) (hn : zs.length ≤ 1048576) (hm : vs.length ≤ 1048576) :
    Calls Tryz.prog 19 #[.agg #[.int .i64 n, .slice a zs.length cap], .slice l vs.length capl] w fun e w' => e = .returned (.bool (votesB zs vs)) ∧ Below w.heap.size w w' := by
  have S0 := SV.new w n a zs cap l vs 37 hi hj
  clear hi hj
  go_enter Tryz.func19, Tryz.ntmps19
  go_wp2_with fail
  go_loopw [5] (fun i wr => ∃ k : Nat, k ≤ vs.length ∧ i = .int .i64 k ∧ (∀ j, j < k → vs.getD j 0 ∈ zs) ∧ SV w n a zs cap l vs wr) (fun i _ => vs.length - (intOf i).toNat)
  case atStart => exact ⟨0, Nat.zero_le _, rfl, fun j hj => by omega, S0⟩
  case round =>
    clear S0
    obtain ⟨k, hk, rfl, hall, SR⟩ := hrel
    have HA := hide hall
    clear hall
    obtain ⟨⟨_, c0, c1⟩, _, il, _⟩ := SR.pair
    by_cases hlt : k < vs.length
    · obtain ⟨lb, lo, rfl, hlb, hlc⟩ := il (by omega)
      have hkk := hlc k hlt
      rw [getD_lt hlt] at hkk
      clear hlc il
      by_cases he : vs[k] ∈ zs
      · have hE := hasB_true he
        have HE := hide he
        clear he
        go_wp2
        go_region_held3 (fun w' => w'.cell? ⟨w.heap.size, 0, none⟩ = some (.int .i64 n) ∧ w'.cell? ⟨w.heap.size, 1, none⟩ = some (.slice a zs.length cap) ∧ w'.cell? ⟨lb, lo + k, none⟩ = some (.int .i64 vs[k]))
          (first
            | exact ⟨c0, c1, hkk⟩
            | exact ⟨S3.1.2.1, S3.1.2.2, ((bdrew hb3).cell (p := ⟨lb, lo + k, none⟩) hlb).trans hkk⟩
            | go_keep)
          (first
            | (go_at_call 29; refine (has_any _ _ _ _ _ _ SR.drew.2.1 hn).mono ?_; rintro e w3 ⟨rfl, hb3⟩; have S3 := SR.drew.below hb3)
            | fail)
        go_wp2
        go_roundw
        case rel => exact ⟨k + 1, by omega, by go_num, fun j hj => by
          rcases Nat.lt_or_ge j k with h | h
          · exact HA.out j h
          · obtain rfl : j = k := by omega
            rw [getD_lt hlt]
            exact HE.out, SR.drew.below hb3⟩
        case measure => simp only [intOf]; omega
      · have hE := hasB_false he
        have HN := hide (votesB_false (fun h : VotesOk zs vs => he (by have := h.1 k hlt; rwa [getD_lt hlt] at this)))
        clear he
        go_wp2
        go_region_held3 (fun w' => w'.cell? ⟨w.heap.size, 0, none⟩ = some (.int .i64 n) ∧ w'.cell? ⟨w.heap.size, 1, none⟩ = some (.slice a zs.length cap) ∧ w'.cell? ⟨lb, lo + k, none⟩ = some (.int .i64 vs[k]))
          (first
            | exact ⟨c0, c1, hkk⟩
            | exact ⟨S3.1.2.1, S3.1.2.2, ((bdrew hb3).cell (p := ⟨lb, lo + k, none⟩) hlb).trans hkk⟩
            | go_keep)
          (first
            | (go_at_call 29; refine (has_any _ _ _ _ _ _ SR.drew.2.1 hn).mono ?_; rintro e w3 ⟨rfl, hb3⟩; have S3 := SR.drew.below hb3)
            | fail)
        go_wp2
        go_ret
        exact ⟨ret_bool HN.out.symm, (SR.drew.below hb3).2.2.2⟩
    · obtain rfl : k = vs.length := by omega
      by_cases hlen : 1 ≤ (vs.length : Int) ∧ (vs.length : Int) ≤ 5
      · have HN := hide (votesB_true (zs := zs) ⟨HA.out, hlen⟩)
        have HL := hide hlen
        clear hlen
        go_wp2_with (go_at_call 30; refine (inRange_yes _ _ _ _ HL.out).mono ?_; rintro e w' ⟨rfl, rfl⟩)
        go_ret
        exact ⟨ret_bool HN.out.symm, SR.2.2.2⟩
      · have HN := hide (votesB_false (fun h : VotesOk zs vs => hlen h.2))
        have HL := hide hlen
        clear hlen
        go_wp2_with (go_at_call 30; refine (inRange_no _ _ _ _ HL.out).mono ?_; rintro e w' ⟨rfl, rfl⟩)
        go_ret
        exact ⟨ret_bool HN.out.symm, SR.2.2.2⟩


theorem validCount_any (k : Int) (w : World) : Calls Tryz.prog 132 #[.int .i64 k] w fun e w' => e = .returned (.bool (decide (1 ≤ k ∧ k ≤ 5))) ∧ w = w' := by
  by_cases h1 : 1 ≤ k <;> by_cases h2 : k ≤ 5
  all_goals
    go_enter Tryz.func132, Tryz.ntmps132
    go_wp2
    go_ret
    exact ⟨ret_bool (by simp [h1, h2]), rfl⟩
theorem validCount_yes (k : Int) (w : World) (h : 1 ≤ k ∧ k ≤ 5) : Calls Tryz.prog 132 #[.int .i64 k] w fun e w' => e = .returned (.bool true) ∧ w = w' :=
  (validCount_any k w).mono fun _ _ ⟨he, hw⟩ => ⟨by rw [he, decide_eq_true h], hw⟩
theorem validCount_no (k : Int) (w : World) (h : ¬ (1 ≤ k ∧ k ≤ 5)) : Calls Tryz.prog 132 #[.int .i64 k] w fun e w' => e = .returned (.bool false) ∧ w = w' :=
  (validCount_any k w).mono fun _ _ ⟨he, hw⟩ => ⟨by rw [he, decide_eq_false h], hw⟩

theorem votesClosure_any (n x : Int) (a : Option Addr) (cap g : Nat) (zs : List Int) (w : World) (hi : Ints w a zs) (hn : zs.length ≤ 1048576) (bx : Box w g n a zs.length cap) :
    Calls Tryz.prog 133 #[.int .i64 x, .pointer (some ⟨g, 0, none⟩)] w fun e w' => e = .returned (.bool (!hasB zs x)) ∧ Below w.heap.size w w' := by
  obtain ⟨_, c0, c1⟩ := bx
  go_enter Tryz.func133, Tryz.ntmps133
  go_wp2_with fail
  refine (contains_any _ _ _ _ _ hi hn).mono ?_
  rintro e w1 ⟨rfl, h1⟩
  go_wp2
  go_ret
  exact ⟨rfl, h1⟩

theorem any_not_has {zs vs : List Int} (h : ∀ j, j < vs.length → vs.getD j 0 ∈ zs) : (vs.any fun x => !hasB zs x) = false := any_false fun j hj => by rw [hasB_true (h j hj)]; rfl
theorem votes_any {zs vs : List Int} (hl : 1 ≤ (vs.length : Int) ∧ (vs.length : Int) ≤ 5) : votesB zs vs = !(vs.any fun x => !hasB zs x) := by
  by_cases h : ∀ j, j < vs.length → vs.getD j 0 ∈ zs
  · rw [votesB_true ⟨h, hl⟩, any_not_has h]; rfl
  · rw [votesB_false (fun hh : VotesOk zs vs => h hh.1)]
    cases ha : vs.any fun x => !hasB zs x
    · exfalso
      apply h
      intro j hj
      rw [List.any_eq_false] at ha
      have := ha _ (mem_of_at hj)
      rw [getD_lt hj]
      simpa [hasB] using this
    · rfl

set_option maxHeartbeats 1000000 in
theorem implValidVotes_any (n : Int) (a l : Option Addr) (cap capl : Nat) (zs vs : List Int) (w : World) (hi : Ints w a zs) (hj : Ints w l vs) (hn : zs.length ≤ 1048576) (hm : vs.length ≤ 1048576) :
    Calls Tryz.prog 107 #[.agg #[.int .i64 n, .slice a zs.length cap], .slice l vs.length capl] w fun e w' => e = .returned (.bool (vvB n zs vs)) ∧ Below w.heap.size w w' := by
  have S0 := SV.new w n a zs cap l vs 37 hi hj
  clear hi hj
  by_cases hv : vsB n zs = false
  · have HV := hide (vvB_no (vs := vs) hv)
    go_enter Tryz.func107, Tryz.ntmps107
    go_wp2_with fail
    refine (implValidSpace_any _ _ _ _ _ S0.2.1 hn).mono ?_
    rintro e w1 ⟨rfl, hb⟩
    go_wp2
    go_ret
    exact ⟨ret_bool HV.out.symm, (S0.below hb).2.2.2⟩
  · have hv : vsB n zs = true := by simpa using hv
    by_cases hlen : 1 ≤ (vs.length : Int) ∧ (vs.length : Int) ≤ 5
    · have HV := hide ((vvB_yes (vs := vs) hv).trans (votes_any hlen))
      have HL := hide hlen
      clear hlen
      go_enter Tryz.func107, Tryz.ntmps107
      go_wp2_with fail
      refine (implValidSpace_any _ _ _ _ _ S0.2.1 hn).mono ?_
      rintro e w1 ⟨rfl, hb⟩
      have S1 := S0.below hb
      have HS := hide S1
      clear S1
      go_wp2_with (go_at_call 132; refine (validCount_yes _ _ HL.out).mono ?_; rintro e w' ⟨rfl, rfl⟩)
      refine (containsFuncV_any (fun x => !hasB zs x) _ _ _ _ _ HS.out.2.2.1 hm (fun x w' _ hb' => votesClosure_any n _ a cap _ _ _ (HS.out.below hb').2.1 hn (HS.out.below hb').1)).mono ?_
      rintro e w2 ⟨rfl, hb2⟩
      go_wp2
      go_ret
      exact ⟨ret_bool HV.out.symm, (HS.out.below hb2).2.2.2⟩
    · have HV := hide ((vvB_yes (vs := vs) hv).trans (votesB_false (fun h : VotesOk zs vs => hlen h.2)))
      have HL := hide hlen
      clear hlen
      go_enter Tryz.func107, Tryz.ntmps107
      go_wp2_with fail
      refine (implValidSpace_any _ _ _ _ _ S0.2.1 hn).mono ?_
      rintro e w1 ⟨rfl, hb⟩
      go_wp2_with (go_at_call 132; refine (validCount_no _ _ HL.out).mono ?_; rintro e w' ⟨rfl, rfl⟩)
      go_ret
      exact ⟨ret_bool HV.out.symm, (S0.below hb).2.2.2⟩
end Go.Proofs.YtgebplpbnaeckaaGreatDoor

/- Sup: Supports: an answer of a judgment, how many votes answer 1; SupportOf in the model and in the program. -/
namespace Go.Proofs.YtgebplpbnaeckaaGreatDoor
open Go.RowKit Go.Joins

/-- how many of the first k votes answer 1 -/
def supK (vs : List Int) (j : Nat) : Nat → Nat
  | 0 => 0
  | k + 1 => supK vs j k + bitN (vs.getD k 0).toNat j
theorem supK_le (vs : List Int) (j : Nat) : ∀ k, supK vs j k ≤ k
  | 0 => Nat.le_refl _
  | k + 1 => by have := supK_le vs j k; have := bitN_le (vs.getD k 0).toNat j; unfold supK; omega
def supN (vs : List Int) (j : Nat) : Nat := supK vs j vs.length
theorem supN_le (vs : List Int) (j : Nat) : supN vs j ≤ vs.length := supK_le _ _ _
/-- the supports of the first m issues by the first k votes -/
def supKL (m : Nat) (vs : List Int) (k : Nat) : List Int := (List.range m).map fun j => (supK vs j k : Int)
def supL (m : Nat) (vs : List Int) : List Int := supKL m vs vs.length
theorem supKL_length (m : Nat) (vs : List Int) (k : Nat) : (supKL m vs k).length = m := by simp [supKL]
theorem supL_length (m : Nat) (vs : List Int) : (supL m vs).length = m := supKL_length _ _ _
theorem supKL_getD (m : Nat) (vs : List Int) (k j : Nat) (h : j < m) : (supKL m vs k).getD j 0 = (supK vs j k : Int) := by
  simp [supKL, List.getD_eq_getElem?_getD, h]
theorem supL_succ (m : Nat) (vs : List Int) : supL (m + 1) vs = supL m vs ++ [(supN vs m : Int)] := by
  unfold supL supKL
  rw [List.range_succ, List.map_append]
  rfl

theorem support_any (l : Option Addr) (capl : Nat) (vs : List Int) (j : Nat) (w : World) (hi : Ints w l vs) (hm : vs.length ≤ 1048576) (hr : ∀ x ∈ vs, 0 ≤ x ∧ x ≤ 15) (hj : j ≤ 4) :
    Calls Tryz.prog 64 #[.slice l vs.length capl, .int .i64 j] w fun e w' => e = .returned (.int .i64 (supN vs j : Nat)) ∧ w = w' := by
  have HR := hide hr
  have HJ := hide hj
  clear hr hj
  go_enter Tryz.func64, Tryz.ntmps64
  go_wp2_with fail
  go_loop [5, 6] (fun s i => ∃ k : Nat, k ≤ vs.length ∧ i = .int .i64 k ∧ s = .int .i64 (supK vs j k : Nat)) (fun _ i => vs.length - (intOf i).toNat)
  case atStart => exact ⟨0, Nat.zero_le _, rfl, rfl⟩
  case round =>
    obtain ⟨k, hk, rfl, rfl⟩ := hrel
    have hsk := supK_le vs j k
    by_cases hlt : k < vs.length
    · obtain ⟨b, off, rfl, hbl, hc⟩ := hi (by omega)
      have hck := hc k hlt
      rw [getD_lt hlt] at hck
      have hb1 := bitN_le vs[k].toNat j
      have hst := hide (show supK vs j (k + 1) = supK vs j k + bitN vs[k].toNat j from by rw [supK, getD_lt hlt])
      clear hc hi
      go_wp2_with (go_at_call 46; refine (bitI_any _ _ _ (HR.out _ (mem_of_at hlt)) HJ.out).mono ?_; rintro e w' ⟨rfl, rfl⟩)
      go_round
      case rel => exact ⟨k + 1, by omega, by go_num, by rw [hst.out]; go_num⟩
      case measure => simp only [intOf]; omega
    · obtain rfl : k = vs.length := by omega
      go_wp2
      go_ret
      exact ⟨rfl, rfl⟩

/-- what SupportOf answers -/
def supA (n : Int) (zs vs : List Int) : List Int := if vvB n zs vs = true then supL n.toNat vs else []
theorem supA_yes {n : Int} {zs vs : List Int} (h : vvB n zs vs = true) : supA n zs vs = supL n.toNat vs := if_pos h
theorem supA_no {n : Int} {zs vs : List Int} (h : vvB n zs vs = false) : supA n zs vs = [] := if_neg (by rw [h]; decide)
theorem supA_len (n : Int) (zs vs : List Int) : (supA n zs vs).length ≤ 1048576 := by
  unfold supA
  split
  · rename_i h
    have := (vv_of h).1.1
    rw [supL_length]; omega
  · simp
theorem votes_range {n : Int} {zs vs : List Int} (h : Valid n zs) (hv : VotesOk zs vs) : ∀ x ∈ vs, 0 ≤ x ∧ x ≤ 15 := fun x hx => valid_range h x (hv.mem x hx)


/-- the supports with one vote more at the first j issues -/
def supMix (m : Nat) (vs : List Int) (k j : Nat) : List Int := (List.range m).map fun t => if t < j then (supK vs t (k + 1) : Int) else (supK vs t k : Int)
theorem supMix_zero (m : Nat) (vs : List Int) (k : Nat) : supMix m vs k 0 = supKL m vs k := by
  unfold supMix supKL
  refine List.map_congr_left fun t _ => ?_
  rw [if_neg (by omega)]
theorem supMix_all (m : Nat) (vs : List Int) (k : Nat) : supMix m vs k m = supKL m vs (k + 1) := by
  unfold supMix supKL
  refine List.map_congr_left fun t ht => ?_
  rw [if_pos (by simpa using ht)]
theorem supMix_length (m : Nat) (vs : List Int) (k j : Nat) : (supMix m vs k j).length = m := by simp [supMix]
theorem supMix_at (m : Nat) (vs : List Int) (k j : Nat) (h : j < m) : (supMix m vs k j)[j]'(by rw [supMix_length]; exact h) = (supK vs j k : Int) := by
  simp [supMix]
theorem supMix_set (m : Nat) (vs : List Int) (k j : Nat) (h : j < m) : (supMix m vs k j).set j (supK vs j (k + 1) : Int) = supMix m vs k (j + 1) := by
  refine ints_ext (by simp [supMix]) fun t ht => ?_
  have ht' : t < m := by simpa [supMix] using ht
  rw [List.getD_eq_getElem?_getD, List.getD_eq_getElem?_getD]
  by_cases e : j = t
  · subst e
    rw [List.getElem?_set_self (by rw [supMix_length]; exact h)]
    simp [supMix, ht']
  · rw [List.getElem?_set_ne e]
    simp only [supMix, List.getElem?_map, List.getElem?_range ht', Option.map_some, Option.getD_some]
    by_cases h1 : t < j
    · rw [if_pos h1, if_pos (by omega)]
    · rw [if_neg h1, if_neg (by omega)]
theorem supKL_zero (m : Nat) (vs : List Int) : supKL m vs 0 = List.replicate m 0 := by
  unfold supKL
  rw [List.eq_replicate_iff]
  refine ⟨by simp, fun b hb => ?_⟩
  simp [supK] at hb
  exact hb.2.symm

theorem shr_bitU (x : Int) (j : Nat) (hx : 0 ≤ x ∧ x ≤ 15) (hj : j ≤ 4) : bits .and .i64 (x / 2 ^ j) 1 = (bitN x.toNat j : Nat) := by
  obtain ⟨y, rfl⟩ := Int.eq_ofNat_of_zero_le hx.1
  have h : ∀ y : Fin 16, ∀ j : Fin 5, bits .and .i64 (((y.val : Nat) : Int) / 2 ^ j.val) 1 = ((bitN y.val j.val : Nat) : Int) := by decide +kernel
  exact h ⟨y, by omega⟩ ⟨j, by omega⟩

set_option maxHeartbeats 2000000 in
theorem implSupportOf_any (n : Int) (a l : Option Addr) (cap capl : Nat) (zs vs : List Int) (w : World) (hi : Ints w a zs) (hj : Ints w l vs) (hn : zs.length ≤ 1048576) (hm : vs.length ≤ 1048576) :
    Calls Tryz.prog 113 #[.agg #[.int .i64 n, .slice a zs.length cap], .slice l vs.length capl] w (Gives (supA n zs vs) w) := by
  obtain ⟨i0, hi0, hz0, hz1, hz2⟩ := info_parts info_int
  have S0 := SV.new w n a zs cap l vs 37 hi hj
  clear hi hj
  by_cases hv : vvB n zs vs = false
  · have HN := hide (supA_no hv)
    go_enter Tryz.func113, Tryz.ntmps113
    go_wp2_with fail
    refine (implValidVotes_any _ _ _ _ _ _ _ _ S0.2.1 S0.2.2.1 hn hm).mono ?_
    rintro e w1 ⟨rfl, hb⟩
    go_wp2
    go_ret
    exact gives_nil HN.out (S0.below hb).2.2.2
  · have hv : vvB n zs vs = true := by simpa using hv
    have HN := hide (supA_yes hv)
    have hV := hide (vv_of hv)
    have HR := hide (votes_range hV.out.1 hV.out.2)
    obtain ⟨m, rfl⟩ := Int.eq_ofNat_of_zero_le (show 0 ≤ n from by have := hV.out.1.1; omega)
    have h4 : m ≤ 4 := by have := hV.out.1.1; omega
    have h5 : vs.length ≤ 5 := by have := hV.out.2.2; omega
    go_enter Tryz.func113, Tryz.ntmps113
    go_wp2_with fail
    refine (implValidVotes_any _ _ _ _ _ _ _ _ S0.2.1 S0.2.2.1 hn hm).mono ?_
    rintro e wo ⟨rfl, hb⟩
    have SR := S0.below hb
    clear S0 hb
    obtain ⟨⟨_, c0, c1⟩, _⟩ := SR.pair
    go_wp2_with (at_make; refine wpList_make_full _ rfl _ _ 35 rfl wo.heap.size 3 i0 (.int .i64 0) 1 Tryz.underlying35 hi0 hz0 hz1 _ _ _ _ m rfl rfl (by omega) (by omega) ?b2 ?b3 (Nat.le_refl _) ?_)
    case b2 => rw [hz2]; omega
    case b3 => unfold maxLen; omega
    intro w0 hown0 hgrow0
    rw [madeInts] at hown0
    have hb0 : Below wo.heap.size wo w0 := (Below.refl _ _).grown hgrow0 (Nat.le_refl _) (fun k h => by cases h)
    clear hgrow0 c0 c1
    go_wp2
    go_loopw [18] (fun i wr => ∃ k : Nat, k ≤ vs.length ∧ i = .int .i64 k ∧ wr.ownsRow wo.heap.size 3 1 (.slice (some ⟨wo.heap.size, 0, none⟩) m m) m ((supKL m vs k).map (Value.int .i64)) ∧ Below wo.heap.size wo wr) (fun i _ => vs.length - (intOf i).toNat)
    case atStart => exact ⟨0, Nat.zero_le _, rfl, by rw [supKL_zero]; exact hown0, hb0⟩
    case round =>
      clear hown0 hb0
      obtain ⟨k, hk, rfl, hown, BR⟩ := hrel
      obtain ⟨⟨_, c0, c1⟩, _, il, _⟩ := (SR.below BR).pair
      by_cases hlt : k < vs.length
      · obtain ⟨lb, lo, rfl, hlb, hlc⟩ := il (by omega)
        have hkk := hlc k hlt
        rw [getD_lt hlt] at hkk
        have rK := hide (HR.out _ (mem_of_at hlt))
        clear hlc il
        go_wp2
        clear hkk c0 c1
        go_loopw [24] (fun i wq => ∃ j : Nat, j ≤ m ∧ i = .int .i64 j ∧ wq.ownsRow wo.heap.size 3 1 (.slice (some ⟨wo.heap.size, 0, none⟩) m m) m ((supMix m vs k j).map (Value.int .i64)) ∧ Below wo.heap.size wo wq) (fun i _ => m - (intOf i).toNat)
        case atStart => exact ⟨0, Nat.zero_le _, rfl, by rw [supMix_zero]; exact hown, BR⟩
        case round =>
          clear hown BR
          obtain ⟨j, hj, rfl, hown, BR⟩ := hrel
          by_cases hjt : j < m
          · have hst := hown.cellAt j (by omega)
            rw [List.getElem?_map, List.getElem?_eq_getElem (by rw [supMix_length]; exact hjt), supMix_at m vs k j hjt] at hst
            have hfz := hown.frozenAt j
            have hbit := shr_bitU vs[k] j rK.out (by omega)
            have hb1 := bitN_le vs[k].toNat j
            have hsk := supK_le vs j k
            have HS := hide (show supK vs j (k + 1) = supK vs j k + bitN vs[k].toNat j from by rw [supK, getD_lt hlt])
            have HM := hide (supMix_set m vs k j hjt)
            go_wp2
            go_region
            all_goals go_wp2
            all_goals
              go_roundw
              case rel => exact ⟨j + 1, by omega, by go_num, by rw [← HM.out, HS.out, List.map_set]; exact (hown.stored j _).1, bdrew' (BR.setCell (p := ⟨wo.heap.size, j, none⟩) (Nat.le_refl _) _)⟩
              case measure => simp [intOf]; omega
          · obtain rfl : j = m := by omega
            go_wp2
            go_roundw
            case rel => exact ⟨k + 1, by omega, by go_num, by rw [← supMix_all]; exact hown, BR⟩
            case measure => simp only [intOf]; omega
      · obtain rfl : k = vs.length := by omega
        go_wp2
        go_ret
        refine ⟨_, rfl, ?_, bnext SR.2.2.2 BR⟩
        rw [HN.out, Int.toNat_natCast]
        refine Owns.le (base := wo.heap.size) ?_ SR.2.2.2.size
        unfold Owns
        rw [supL_length]
        exact hown
end Go.Proofs.YtgebplpbnaeckaaGreatDoor
