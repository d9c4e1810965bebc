/- The model's NearestTo. -/
import Derived.Test.YtljbapfemjdneaaBetween
import Derived.Outline
namespace Go.Proofs.Ytljbapfemjdneaa
open Go.RowKit Go.Joins

/-- how far a judgment is -/
def dst (x y : Int) : Nat := wt (y.toNat ^^^ x.toNat)
theorem dst_le (x y : Int) : dst x y ≤ 4 := wt_le _
def leastK (x : Int) (zs : List Int) : Nat → Nat
  | 0 => dst x (zs.getD 0 0)
  | k + 1 => min (leastK x zs k) (dst x (zs.getD k 0))
theorem leastK_le (x : Int) (zs : List Int) : ∀ k, leastK x zs k ≤ 4
  | 0 => dst_le _ _
  | k + 1 => Nat.le_trans (Nat.min_le_left _ _) (leastK_le x zs k)
def nearP (x : Int) (zs : List Int) (y : Int) : Bool := dst x y == leastK x zs zs.length
def NearOk (n : Int) (zs : List Int) (x : Int) : Prop := Valid n zs ∧ (0 ≤ x ∧ x ≤ pw n - 1)
instance (n : Int) (zs : List Int) (x : Int) : Decidable (NearOk n zs x) := by unfold NearOk; infer_instance
def nearL (n : Int) (zs : List Int) (x : Int) : List Int := if NearOk n zs x then zs.filter (nearP x zs) else []
theorem nearL_yes {n : Int} {zs : List Int} {x : Int} (h : NearOk n zs x) : nearL n zs x = zs.filter (nearP x zs) := if_pos h
theorem nearL_no {n : Int} {zs : List Int} {x : Int} (h : ¬ NearOk n zs x) : nearL n zs x = [] := if_neg h
theorem nearL_len (n : Int) (zs : List Int) (x : Int) : (nearL n zs x).length ≤ zs.length := by
  unfold nearL
  split
  · exact List.length_filter_le _ _
  · simp
/-- the distances of all of a list -/
def dists (x : Int) (zs : List Int) : List Int := zs.map fun y => (dst x y : Int)
theorem dists_length (x : Int) (zs : List Int) : (dists x zs).length = zs.length := by simp [dists]
theorem dists_getD (x : Int) (zs : List Int) (k : Nat) (hk : k < zs.length) : (dists x zs).getD k 0 = (dst x zs[k] : Int) := by
  simp [dists, List.getD_eq_getElem?_getD, hk]
theorem dists_take (x : Int) (zs : List Int) (k : Nat) (hk : k < zs.length) : dists x (zs.take (k + 1)) = dists x (zs.take k) ++ [(dst x zs[k] : Int)] := by
  unfold dists
  rw [List.take_add_one, List.getElem?_eq_getElem hk, List.map_append]
  rfl

set_option maxHeartbeats 2000000 in
set_option maxRecDepth 100000 in
theorem nearest_any (n x : Int) (a l : Option Addr) (cap capl : Nat) (zs : List Int) (w : World) (hi : Ints w a zs) (hj : Ints w l (dists x zs)) (hn : zs.length ≤ 1048576) (hpos : 0 < zs.length) :
    Calls Try.prog 86 #[.agg #[.int .i64 n, .slice a zs.length cap], .slice l zs.length capl] w (Gives (zs.filter (nearP x zs)) w) := by
  obtain ⟨i0, hi0, hz0, hz1, hz2⟩ := info_parts info_int
  have S0 := SV.new w n a zs cap l (dists x zs) 25 hi hj
  clear hi hj
  obtain ⟨⟨_, c0, c1⟩, _, il, _⟩ := S0.pair
  obtain ⟨lb, lo, rfl, hlb, hlc⟩ := il (by rw [dists_length]; exact hpos)
  have hl0 := hlc 0 (by rw [dists_length]; exact hpos)
  rw [dists_getD x zs 0 hpos, Nat.add_zero] at hl0
  have HLC := hide hlc
  simp only [World.size_alloc] at hlb
  obtain ⟨wb, hwb⟩ : ∃ wb : World, wb = w.alloc (.cells #[.int .i64 n, .slice a zs.length cap] 25) := ⟨_, rfl⟩
  have S1 : SV w n a zs cap (some ⟨lb, lo, none⟩) (dists x zs) wb := by rw [hwb]; exact S0
  have HLC' : Hid (∀ k, k < (dists x zs).length → wb.cell? ⟨lb, lo + k, none⟩ = some (.int .i64 ((dists x zs).getD k 0))) := by rw [hwb]; exact HLC
  have hlb' : lb < wb.heap.size := by rw [hwb]; simpa using hlb
  have BB : Below wb.heap.size wb ((w.alloc (.cells #[.int .i64 n, .slice a zs.length cap] 25)).alloc (.cells #[] 3)) := by rw [← hwb]; exact bel1 _ _
  have ho0 : Owns ((w.alloc (.cells #[.int .i64 n, .slice a zs.length cap] 25)).alloc (.cells #[] 3)) wb.heap.size (.slice (some ⟨w.heap.size + 1, 0, none⟩) 0 0) [] := by
    rw [← hwb]
    have h := World.ownsRow_lit (base := wb.heap.size) (e := 3) (size := 1) wb #[] 0 (Nat.le_refl _) (by simp) rfl
    have e : wb.heap.size = w.heap.size + 1 := by rw [hwb]; simp
    rw [e] at h ⊢
    exact h
  clear hwb S0 HLC hlc il
  go_enter Try.func86, Try.ntmps86
  go_wp2_with fail
  go_loopw [6, 7] (fun b i wr => ∃ k : Nat, k ≤ zs.length ∧ i = .int .i64 k ∧ b = .int .i64 (leastK x zs k : Nat) ∧ Owns wr wb.heap.size (.slice (some ⟨w.heap.size + 1, 0, none⟩) 0 0) [] ∧ Below wb.heap.size wb wr) (fun _ i _ => zs.length - (intOf i).toNat)
  case atStart => exact ⟨0, Nat.zero_le _, rfl, by rw [show leastK x zs 0 = dst x zs[0] from by rw [leastK, getD_lt hpos]], ho0, BB⟩
  case round =>
    clear ho0 BB c0 c1 hl0
    obtain ⟨k, hk, rfl, rfl, hown, BR⟩ := hrel
    by_cases hlt : k < zs.length
    · have hck := (BR.cell (p := ⟨lb, lo + k, none⟩) hlb').trans (HLC'.out k (by rw [dists_length]; exact hlt))
      rw [dists_getD x zs k hlt] at hck
      have hk1 := hide (show leastK x zs (k + 1) = min (leastK x zs k) (dst x zs[k]) from by rw [leastK, getD_lt hlt])
      by_cases hm : leastK x zs k ≤ dst x zs[k]
      · go_wp2
        go_roundw
        case rel => exact ⟨k + 1, by omega, by go_num, by rw [hk1.out, Nat.min_eq_left hm], hown, BR⟩
        case measure => simp only [intOf]; omega
      · have hm' : dst x zs[k] ≤ leastK x zs k := by omega
        go_wp2
        go_roundw
        case rel => exact ⟨k + 1, by omega, by go_num, by rw [hk1.out, Nat.min_eq_right hm'], hown, BR⟩
        case measure => simp only [intOf]; omega
    · obtain rfl : k = zs.length := by omega
      obtain ⟨wo, rfl⟩ : ∃ wo : World, wo = wr := ⟨_, rfl⟩
      go_wp2
      go_loopw [5, 8] (fun v i wr => ∃ k : Nat, k ≤ zs.length ∧ i = .int .i64 k ∧ Owns wr wb.heap.size v ((zs.take k).filter (nearP x zs)) ∧ Below wb.heap.size wb wr) (fun _ i _ => zs.length - (intOf i).toNat)
      case atStart => exact ⟨0, Nat.zero_le _, rfl, hown, BR⟩
      case round =>
        clear hown BR
        obtain ⟨k, hk, rfl, hown, BR⟩ := hrel
        obtain ⟨⟨_, c0, c1⟩, iz, _, _⟩ := (S1.below BR).pair
        by_cases hlt : k < zs.length
        · obtain ⟨b, off, rfl, hbl, hc⟩ := iz (by omega)
          have hck := hc k hlt
          rw [getD_lt hlt] at hck
          have hdk := (BR.cell (p := ⟨lb, lo + k, none⟩) hlb').trans (HLC'.out k (by rw [dists_length]; exact hlt))
          rw [dists_getD x zs k hlt] at hdk
          have hft := hide (filter_take (nearP x zs) zs k hlt)
          have hle := filter_le (nearP x zs) zs k
          have hp : nearP x zs zs[k] = (dst x zs[k] == leastK x zs zs.length) := rfl
          have hsz := BR.size
          clear hc iz
          by_cases he : nearP x zs zs[k] = true
          · have HE := hide he
            have hE : ((dst x zs[k] : Int) == (leastK x zs zs.length : Int)) = true := by
              rw [hp, beq_iff_eq] at he; rw [beq_iff_eq]; omega
            clear he hp
            go_wp2_with ((at_builtin; refine wpList_append_own _ rfl _ _ 23 rfl wb.heap.size 3 i0 (.int .i64 0) 1 8 Try.underlying23 hi0 hz0 hz1 hz2 rfl (by decide) _ _ _ rfl (hown.alloc _) ⟨wr.heap.size, 0, none⟩ 1 1 [.int .i64 zs[k]] rfl rfl ?c1 ?c2 ?c3 ?c4 ?c5 ?_))
            case c1 => exact cell_one_new _ _ _
            case c2 => intro u hu; simp at hu; subst hu; rfl
            case c3 => unfold maxLen; omega
            case c4 => omega
            case c5 => simp; omega
            intro v' w2 hown' hgrow _
            have hpush := hide (Owns.push hown')
            have hbel : Below wb.heap.size wb w2 := (BR.alloc hsz _).grown hgrow (by simp; omega) (fun j hj => own_ge hown j hj)
            clear hown' hgrow hown
            go_wp2
            go_roundw
            case rel => exact ⟨k + 1, by omega, by go_num, by rw [hft.out, if_pos HE.out]; exact hpush.out, hbel⟩
            case measure => simp only [intOf]; omega
          · have he : nearP x zs zs[k] = false := by simpa using he
            have HE := hide he
            have hE : ((dst x zs[k] : Int) == (leastK x zs zs.length : Int)) = false := by
              rw [hp, beq_eq_false_iff_ne] at he; rw [beq_eq_false_iff_ne]; omega
            clear he hp
            go_wp2
            go_roundw
            case rel => exact ⟨k + 1, by omega, by go_num, by rw [hft.out, if_neg (by rw [HE.out]; decide), List.append_nil]; exact hown, BR⟩
            case measure => simp only [intOf]; omega
        · obtain rfl : k = zs.length := by omega
          have hw := S1.2.2.2
          go_wp2
          go_ret
          exact ⟨_, rfl, by rw [List.take_length] at hown; exact hown.le hw.size, bnext hw BR⟩

set_option maxHeartbeats 2000000 in
set_option maxRecDepth 100000 in
theorem specNearestTo_any (n x : Int) (a : Option Addr) (cap : Nat) (zs : List Int) (w : World) (hi : Ints w a zs) (hn : zs.length ≤ 1048576) :
    Calls Try.prog 38 #[.agg #[.int .i64 n, .slice a zs.length cap], .int .i64 x] w (Gives (nearL n zs x) w) := by
  obtain ⟨i0, hi0, hz0, hz1, hz2⟩ := info_parts info_int
  have S0 := SV.new w n a zs cap none [] 25 hi (Ints.nil _ _)
  clear hi
  by_cases hv : vsB n zs = false
  · have HN := hide (nearL_no (x := x) (fun h : NearOk n zs x => by rw [vsB_true h.1] at hv; cases hv))
    go_enter Try.func38, Try.ntmps38
    go_wp2_with fail
    refine (validSpace_any _ _ _ _ _ S0.2.1 hn).mono ?_
    rintro e w1 ⟨rfl, hb⟩
    go_wp2
    go_ret
    exact gives_nil HN.out (S0.below hb).2.2.2
  · have hv : vsB n zs = true := by simpa using hv
    have hV := hide (valid_of hv)
    have hpos := hV.out.2.1
    have h14 := hV.out.1
    have HR := hide (valid_range hV.out)
    have p1 := pw_pos n
    have p2 := pw_le n h14.2
    by_cases hx : 0 ≤ x ∧ x ≤ pw n - 1
    · have HX := hide hx
      have HK : Hid (NearOk n zs x) := ⟨hV.out, hx⟩
      have rx : Hid (0 ≤ x ∧ x ≤ 15) := ⟨hx.1, by omega⟩
      clear hx
      go_enter Try.func38, Try.ntmps38
      go_wp2_with fail
      refine (validSpace_any _ _ _ _ _ S0.2.1 hn).mono ?_
      rintro e wo ⟨rfl, hb⟩
      have SR := S0.below hb
      clear S0 hb
      obtain ⟨⟨_, c0, c1⟩, _⟩ := SR.pair
      have ho0 : Owns (wo.alloc (.cells #[] 3)) wo.heap.size (.slice (some ⟨wo.heap.size, 0, none⟩) 0 0) [] := World.ownsRow_lit wo #[] 0 (Nat.le_refl _) (by simp) rfl
      have BA := bel1 wo (.cells #[] 3)
      go_wp2_with (first
        | (go_at_call 80; refine (power_any _ _ (by omega) (by omega)).mono ?_; rintro e w' ⟨rfl, rfl⟩)
        | (go_at_call 84; refine (inRange_yes _ _ _ _ HX.out).mono ?_; rintro e w' ⟨rfl, rfl⟩))
      clear c0 c1
      go_loopw [5, 6] (fun v i wr => ∃ k : Nat, k ≤ zs.length ∧ i = .int .i64 k ∧ Owns wr wo.heap.size v (dists x (zs.take k)) ∧ Below wo.heap.size wo wr) (fun _ i _ => zs.length - (intOf i).toNat)
      case atStart => exact ⟨0, Nat.zero_le _, rfl, ho0, BA⟩
      case round =>
        clear ho0 BA
        obtain ⟨k, hk, rfl, hown, BR⟩ := hrel
        obtain ⟨⟨_, c0, c1⟩, iz, _, _⟩ := (SR.below BR).pair
        by_cases hlt : k < zs.length
        · obtain ⟨b, off, rfl, hbl, hc⟩ := iz (by omega)
          have hck := hc k hlt
          rw [getD_lt hlt] at hck
          have hdt := hide (dists_take x zs k hlt)
          have hle : (dists x (zs.take k)).length ≤ k := by rw [dists_length]; exact List.length_take_le _ _
          have hsz := BR.size
          have rz := hide (HR.out _ (mem_of_at hlt))
          clear hc iz
          go_wp2_with (first
            | (go_at_call 85; refine (gapI_any _ _ _ rz.out rx.out).mono ?_; rintro e w' ⟨rfl, rfl⟩)
            | (at_builtin; refine wpList_append_own _ rfl _ _ 23 rfl wo.heap.size 3 i0 (.int .i64 0) 1 8 Try.underlying23 hi0 hz0 hz1 hz2 rfl (by decide) _ _ _ rfl (hown.alloc _) ⟨wr.heap.size, 0, none⟩ 1 1 [.int .i64 (dst x zs[k] : Nat)] rfl rfl ?c1 ?c2 ?c3 ?c4 ?c5 ?_))
          case c1 => exact cell_one_new _ _ _
          case c2 => intro u hu; simp at hu; subst hu; rfl
          case c3 => unfold maxLen; omega
          case c4 => omega
          case c5 => simp; omega
          intro v' w2 hown' hgrow _
          have hpush := hide (Owns.push hown')
          have hbel : Below wo.heap.size wo w2 := (BR.alloc hsz _).grown hgrow (by simp; omega) (fun j hj => own_ge hown j hj)
          clear hown' hgrow hown
          go_wp2
          go_roundw
          case rel => exact ⟨k + 1, by omega, by go_num, by rw [hdt.out]; exact hpush.out, hbel⟩
          case measure => simp only [intOf]; omega
        · obtain rfl : k = zs.length := by omega
          rw [List.take_length] at hown
          obtain ⟨av, cv, rfl, iv, _⟩ := hown.form
          have hlen := dists_length x zs
          rw [hlen]
          clear hlen
          go_wp2_with fail
          refine (nearest_any _ x _ _ _ _ _ _ iz iv hn hpos).mono ?_
          rintro e w5 ⟨v, rfl, ov, hb5⟩
          have SS := (SR.below BR).below hb5
          have hle := (SR.below BR).2.2.2.size
          go_wp2
          go_ret
          exact ⟨v, rfl, by rw [nearL_yes HK.out]; exact ov.le hle, SS.2.2.2⟩
    · have HX := hide hx
      have HN := hide (nearL_no (x := x) (fun h : NearOk n zs x => hx h.2))
      clear hx
      go_enter Try.func38, Try.ntmps38
      go_wp2_with fail
      refine (validSpace_any _ _ _ _ _ S0.2.1 hn).mono ?_
      rintro e w1 ⟨rfl, hb⟩
      have SR := S0.below hb
      obtain ⟨⟨_, c0, c1⟩, _⟩ := SR.pair
      go_wp2_with (first
        | (go_at_call 80; refine (power_any _ _ (by omega) (by omega)).mono ?_; rintro e w' ⟨rfl, rfl⟩)
        | (go_at_call 84; refine (inRange_no _ _ _ _ HX.out).mono ?_; rintro e w' ⟨rfl, rfl⟩))
      go_ret
      exact gives_nil HN.out SR.2.2.2
end Go.Proofs.Ytljbapfemjdneaa
