/- The model's nearest, for whatever is to be least; the judgments than which no other one is better. -/
import Derived.Test.YtgebplpbnaeckaaGreatDoorMg08
import Derived.Test.YtgebplpbnaeckaaGreatDoorMg07
import Derived.Outline
namespace Go.Proofs.YtgebplpbnaeckaaGreatDoor
open Go.RowKit Go.Joins

/-- the least of the first k -/
def leastF (f : Int → Nat) (zs : List Int) : Nat → Nat
  | 0 => f (zs.getD 0 0)
  | k + 1 => min (leastF f zs k) (f (zs.getD k 0))
def nearF (f : Int → Nat) (zs : List Int) (y : Int) : Bool := f y == leastF f zs zs.length
theorem leastF_le (f : Int → Nat) (zs : List Int) : ∀ (k j : Nat), j < k → leastF f zs k ≤ f (zs.getD j 0)
  | 0, j, h => by omega
  | k + 1, j, h => by
    unfold leastF
    rcases Nat.lt_or_ge j k with hlt | hge
    · exact Nat.le_trans (Nat.min_le_left _ _) (leastF_le f zs k j hlt)
    · obtain rfl : j = k := by omega
      exact Nat.min_le_right _ _
theorem leastF_at (f : Int → Nat) (zs : List Int) (hpos : 0 < zs.length) : ∀ k, k ≤ zs.length → ∃ z ∈ zs, leastF f zs k = f z
  | 0, _ => ⟨zs[0], mem_of_at hpos, by unfold leastF; rw [getD_lt hpos]⟩
  | k + 1, h => by
    obtain ⟨z, hz, e⟩ := leastF_at f zs hpos k (by omega)
    unfold leastF
    rcases Nat.le_total (leastF f zs k) (f (zs.getD k 0)) with hle | hle
    · exact ⟨z, hz, by rw [Nat.min_eq_left hle]; exact e⟩
    · refine ⟨zs[k], mem_of_at h, ?_⟩
      rw [Nat.min_eq_right hle, getD_lt (show k < zs.length from h)]
/-- the judgments than which by b no other one is better -/
def unbP (b : Int → Int → Bool) (zs : List Int) (x : Int) : Bool := !(zs.any fun y => b y x)
def unbL (b : Int → Int → Bool) (zs : List Int) : List Int := zs.filter (unbP b zs)
theorem unbP_no {b : Int → Int → Bool} {zs : List Int} {x : Int} (h : ∃ y ∈ zs, b y x = true) : unbP b zs x = false := by
  unfold unbP
  rw [Bool.not_eq_false', List.any_eq_true]
  exact h
theorem unbP_yes {b : Int → Int → Bool} {zs : List Int} {x : Int} (h : ∀ y ∈ zs, b y x = false) : unbP b zs x = true := by
  unfold unbP
  rw [Bool.not_eq_true', List.any_eq_false]
  intro y hy
  rw [h y hy]; decide
theorem unb_congr {b c : Int → Int → Bool} {zs : List Int} (h : ∀ x ∈ zs, ∀ y ∈ zs, b y x = c y x) : unbL b zs = unbL c zs := by
  unfold unbL
  refine List.filter_congr fun x hx => ?_
  unfold unbP
  rw [Bool.not_inj_iff, Bool.eq_iff_iff, List.any_eq_true, List.any_eq_true]
  exact ⟨fun ⟨y, hy, e⟩ => ⟨y, hy, by rw [← h x hx y hy]; exact e⟩, fun ⟨y, hy, e⟩ => ⟨y, hy, by rw [h x hx y hy]; exact e⟩⟩
theorem unb_near (f : Int → Nat) (zs : List Int) : unbL (fun y x => decide (f y < f x)) zs = zs.filter (nearF f zs) := by
  unfold unbL
  refine List.filter_congr fun x hx => ?_
  obtain ⟨j, hj, rfl⟩ := List.getElem_of_mem hx
  have hle := leastF_le f zs zs.length j hj
  rw [getD_lt hj] at hle
  obtain ⟨z, hz, e⟩ := leastF_at f zs (by omega) zs.length (Nat.le_refl _)
  unfold nearF unbP
  rw [Bool.eq_iff_iff, Bool.not_eq_true', List.any_eq_false, beq_iff_eq]
  refine ⟨fun h => ?_, fun h y hy => ?_⟩
  · have := h z hz
    simp only [decide_eq_true_eq] at this
    omega
  · obtain ⟨i, hi, rfl⟩ := List.getElem_of_mem hy
    have := leastF_le f zs zs.length i hi
    rw [getD_lt hi] at this
    simp only [decide_eq_true_eq]
    omega
/-- the distances of all of a list -/
def farL (f : Int → Nat) (zs : List Int) : List Int := zs.map fun y => (f y : Int)
theorem farL_length (f : Int → Nat) (zs : List Int) : (farL f zs).length = zs.length := by simp [farL]
theorem farL_getD (f : Int → Nat) (zs : List Int) (k : Nat) (hk : k < zs.length) : (farL f zs).getD k 0 = (f zs[k] : Int) := by
  simp [farL, List.getD_eq_getElem?_getD, hk]
theorem farL_take (f : Int → Nat) (zs : List Int) (k : Nat) (hk : k < zs.length) : farL f (zs.take (k + 1)) = farL f (zs.take k) ++ [(f zs[k] : Int)] := by
  unfold farL
  rw [List.take_add_one, List.getElem?_eq_getElem hk, List.map_append]
  rfl

set_option maxHeartbeats 2000000 in
set_option maxRecDepth 100000 in
theorem nearestF_any (f : Int → Nat) (n : Int) (a l : Option Addr) (cap capl : Nat) (zs : List Int) (w : World) (hi : Ints w a zs) (hj : Ints w l (farL f zs)) (hn : zs.length ≤ 1048576) (hpos : 0 < zs.length) :
    Calls Tryz.prog 66 #[.agg #[.int .i64 n, .slice a zs.length cap], .slice l zs.length capl] w (Gives (zs.filter (nearF f zs)) w) := by
  obtain ⟨i0, hi0, hz0, hz1, hz2⟩ := info_parts info_int
  have S0 := SV.new w n a zs cap l (farL f zs) 37 hi hj
  clear hi hj
  obtain ⟨⟨_, c0, c1⟩, _, il, _⟩ := S0.pair
  obtain ⟨lb, lo, rfl, hlb, hlc⟩ := il (by rw [farL_length]; exact hpos)
  have hl0 := hlc 0 (by rw [farL_length]; exact hpos)
  rw [farL_getD f zs 0 hpos, Nat.add_zero] at hl0
  have HLC := hide hlc
  simp only [World.size_alloc] at hlb
  obtain ⟨wb, hwb⟩ : ∃ wb : World, wb = w.alloc (.cells #[.int .i64 n, .slice a zs.length cap] 37) := ⟨_, rfl⟩
  have S1 : SV w n a zs cap (some ⟨lb, lo, none⟩) (farL f zs) wb := by rw [hwb]; exact S0
  have HLC' : Hid (∀ k, k < (farL f zs).length → wb.cell? ⟨lb, lo + k, none⟩ = some (.int .i64 ((farL f zs).getD k 0))) := by rw [hwb]; exact HLC
  have hlb' : lb < wb.heap.size := by rw [hwb]; simpa using hlb
  have BB : Below wb.heap.size wb ((w.alloc (.cells #[.int .i64 n, .slice a zs.length cap] 37)).alloc (.cells #[] 3)) := by rw [← hwb]; exact bel1 _ _
  have ho0 : Owns ((w.alloc (.cells #[.int .i64 n, .slice a zs.length cap] 37)).alloc (.cells #[] 3)) wb.heap.size (.slice (some ⟨w.heap.size + 1, 0, none⟩) 0 0) [] := by
    rw [← hwb]
    have h := World.ownsRow_lit (base := wb.heap.size) (e := 3) (size := 1) wb #[] 0 (Nat.le_refl _) (by simp) rfl
    have e : wb.heap.size = w.heap.size + 1 := by rw [hwb]; simp
    rw [e] at h ⊢
    exact h
  clear hwb S0 HLC hlc il
  go_enter Tryz.func66, Tryz.ntmps66
  go_wp2_with fail
  go_loopw [6, 7] (fun b i wr => ∃ k : Nat, k ≤ zs.length ∧ i = .int .i64 k ∧ b = .int .i64 (leastF f zs k : Nat) ∧ Owns wr wb.heap.size (.slice (some ⟨w.heap.size + 1, 0, none⟩) 0 0) [] ∧ Below wb.heap.size wb wr) (fun _ i _ => zs.length - (intOf i).toNat)
  case atStart => exact ⟨0, Nat.zero_le _, rfl, by rw [show leastF f zs 0 = f zs[0] from by rw [leastF, getD_lt hpos]], ho0, BB⟩
  case round =>
    clear ho0 BB c0 c1 hl0
    obtain ⟨k, hk, rfl, rfl, hown, BR⟩ := hrel
    by_cases hlt : k < zs.length
    · have hck := (BR.cell (p := ⟨lb, lo + k, none⟩) hlb').trans (HLC'.out k (by rw [farL_length]; exact hlt))
      rw [farL_getD f zs k hlt] at hck
      have hk1 := hide (show leastF f zs (k + 1) = min (leastF f zs k) (f zs[k]) from by rw [leastF, getD_lt hlt])
      by_cases hm : leastF f zs k ≤ f zs[k]
      · go_wp2
        go_roundw
        case rel => exact ⟨k + 1, by omega, by go_num, by rw [hk1.out, Nat.min_eq_left hm]; try exact congrArg (Value.int IntKind.i64) (by omega), hown, BR⟩
        case measure => simp only [intOf]; omega
      · have hm' : f zs[k] ≤ leastF f zs k := by omega
        go_wp2
        go_roundw
        case rel => exact ⟨k + 1, by omega, by go_num, by rw [hk1.out, Nat.min_eq_right hm']; try exact congrArg (Value.int IntKind.i64) (by omega), hown, BR⟩
        case measure => simp only [intOf]; omega
    · obtain rfl : k = zs.length := by omega
      obtain ⟨wo, rfl⟩ : ∃ wo : World, wo = wr := ⟨_, rfl⟩
      go_wp2
      go_loopw [5, 8] (fun v i wr => ∃ k : Nat, k ≤ zs.length ∧ i = .int .i64 k ∧ Owns wr wb.heap.size v ((zs.take k).filter (nearF f zs)) ∧ Below wb.heap.size wb wr) (fun _ i _ => zs.length - (intOf i).toNat)
      case atStart => exact ⟨0, Nat.zero_le _, rfl, hown, BR⟩
      case round =>
        clear hown BR
        obtain ⟨k, hk, rfl, hown, BR⟩ := hrel
        obtain ⟨⟨_, c0, c1⟩, iz, _, _⟩ := (S1.below BR).pair
        by_cases hlt : k < zs.length
        · obtain ⟨b, off, rfl, hbl, hc⟩ := iz (by omega)
          have hck := hc k hlt
          rw [getD_lt hlt] at hck
          have hdk := (BR.cell (p := ⟨lb, lo + k, none⟩) hlb').trans (HLC'.out k (by rw [farL_length]; exact hlt))
          rw [farL_getD f zs k hlt] at hdk
          have hft := hide (filter_take (nearF f zs) zs k hlt)
          have hle := filter_le (nearF f zs) zs k
          have hp : nearF f zs zs[k] = (f zs[k] == leastF f zs zs.length) := rfl
          have hsz := BR.size
          clear hc iz
          by_cases he : nearF f zs zs[k] = true
          · have HE := hide he
            have hE : ((f zs[k] : Int) == (leastF f zs zs.length : Int)) = true := by
              rw [hp, beq_iff_eq] at he; rw [beq_iff_eq]; omega
            clear he hp
            go_wp2_with ((at_builtin; refine wpList_append_own _ rfl _ _ 35 rfl wb.heap.size 3 i0 (.int .i64 0) 1 8 Tryz.underlying35 hi0 hz0 hz1 hz2 rfl (by decide) _ _ _ rfl (hown.alloc _) ⟨wr.heap.size, 0, none⟩ 1 1 [.int .i64 zs[k]] rfl rfl ?c1 ?c2 ?c3 ?c4 ?c5 ?_))
            case c1 => exact cell_one_new _ _ _
            case c2 => intro u hu; simp at hu; subst hu; rfl
            case c3 => unfold maxLen; omega
            case c4 => omega
            case c5 => simp; omega
            intro v' w2 hown' hgrow _
            have hpush := hide (Owns.push hown')
            have hbel : Below wb.heap.size wb w2 := (BR.alloc hsz _).grown hgrow (by simp; omega) (fun j hj => own_ge hown j hj)
            clear hown' hgrow hown
            go_wp2
            go_roundw
            case rel => exact ⟨k + 1, by omega, by go_num, by rw [hft.out, if_pos HE.out]; exact hpush.out, hbel⟩
            case measure => simp only [intOf]; omega
          · have he : nearF f zs zs[k] = false := by simpa using he
            have HE := hide he
            have hE : ((f zs[k] : Int) == (leastF f zs zs.length : Int)) = false := by
              rw [hp, beq_eq_false_iff_ne] at he; rw [beq_eq_false_iff_ne]; omega
            clear he hp
            go_wp2
            go_roundw
            case rel => exact ⟨k + 1, by omega, by go_num, by rw [hft.out, if_neg (by rw [HE.out]; decide), List.append_nil]; exact hown, BR⟩
            case measure => simp only [intOf]; omega
        · obtain rfl : k = zs.length := by omega
          have hw := S1.2.2.2
          go_wp2
          go_ret
          exact ⟨_, rfl, by rw [List.take_length] at hown; exact hown.le hw.size, bnext hw BR⟩

end Go.Proofs.YtgebplpbnaeckaaGreatDoor
