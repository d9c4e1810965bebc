/- The model's search for an order in which votes are lined up. -/
import Derived.Test.YtccemllgglfgkaaLin
import Derived.Test.YtccemllgglfgkaaSpare
import Derived.Deep.RegionHeld3
namespace Go.Proofs.Ytccemllgglfgkaa
open Go.RowKit Go.Joins

/-- the first list that is not empty -/
def firstL (g : Nat → List Int) : Nat → List Int
  | 0 => []
  | k + 1 => if firstL g k = [] then g k else firstL g k
theorem firstL_none {g : Nat → List Int} {k : Nat} (h : firstL g k = []) (h2 : g k = []) : firstL g (k + 1) = [] := by rw [firstL, if_pos h, h2]
theorem firstL_some {g : Nat → List Int} {k : Nat} (h : firstL g k = []) (h2 : g k ≠ []) : ∀ d, firstL g (k + 1 + d) = g k
  | 0 => by rw [Nat.add_zero, firstL, if_pos h]
  | d + 1 => by
    have ih := firstL_some h h2 d
    rw [← Nat.add_assoc, firstL, ih, if_neg h2]
/-- the votes in an order -/
def inRow (vs hs : List Int) : List Int := hs.map fun h => vs.getD h.toNat 0
/-- the first order from hs on in which the votes are lined up -/
def upL (m : Nat) (vs : List Int) : Nat → List Int → List Int
  | 0, hs => if linB m (inRow vs hs) = true then hs else []
  | f + 1, hs => firstL (fun x => if (x : Int) ∈ hs then [] else upL m vs f (hs ++ [(x : Int)])) vs.length
theorem own_list {w : World} {base : Nat} {v : Value} {zs : List Int} (h : Owns w base v zs) (hv : v ≠ .slice none 0 0) :
    ∃ g c, v = .slice (some ⟨g, 0, none⟩) zs.length c ∧ Ints w (some ⟨g, 0, none⟩) zs ∧ g < w.heap.size := by
  have h' : w.ownsRow base 3 1 v zs.length (zs.map (Value.int .i64)) := h
  have hi := h
  rcases h'.2 with ⟨h0, _⟩ | ⟨g, c, cur, rfl, hg, hb, h1, h2, h3, h4⟩
  · exact absurd h0 hv
  · exact ⟨g, c, rfl, Owns.ints hi, lt_of_block hb⟩
theorem add_cells {w : World} {b o : Nat} {zs : List Int} (hc : Ints w (some ⟨b, o, none⟩) zs) : ∀ j u, (zs.map (Value.int .i64))[j]? = some u → w.cell? ((⟨b, o, none⟩ : Addr).add j) = some u := by
  intro j u hu
  rw [List.getElem?_map] at hu
  by_cases hl : j < zs.length
  · rw [List.getElem?_eq_getElem hl, Option.map_some] at hu
    cases hu
    obtain ⟨b', o', e, _, h⟩ := hc (by omega)
    cases e
    have e1 : (⟨b, o, none⟩ : Addr).add j = ⟨b, o + j, none⟩ := by
      unfold Addr.add
      by_cases h : j = 0 <;> simp [h]
    rw [e1, h j hl, getD_lt hl]
  · rw [List.getElem?_eq_none (by omega)] at hu
    cases hu
theorem ones_all (ys : List Int) : ∀ u ∈ ys.map (Value.int .i64), u.oneCell' = true := by
  intro u hu
  obtain ⟨x, _, rfl⟩ := List.mem_map.1 hu
  rfl
theorem inRow_take (vs hs : List Int) (k : Nat) (h : k < hs.length) : inRow vs (hs.take (k + 1)) = inRow vs (hs.take k) ++ [vs.getD (hs.getD k 0).toNat 0] := by
  unfold inRow
  rw [List.take_add_one, List.getElem?_eq_getElem h, List.map_append, getD_lt h]
  rfl
theorem inRow_mem {vs hs : List Int} (hh : ∀ h ∈ hs, 0 ≤ h ∧ h < (vs.length : Int)) {P : Int → Prop} (hp : ∀ v ∈ vs, P v) : ∀ x ∈ inRow vs hs, P x := by
  intro x hx
  obtain ⟨h, hh', rfl⟩ := List.mem_map.1 hx
  have := hh h hh'
  rw [getD_lt (by omega)]
  exact hp _ (List.getElem_mem _)
theorem lined_was (m : Nat) (a q : Option Addr) (cap capq len : Nat) (xs : List Int) (w : World) (r : Bool) (hq : Ints w q xs) (h4 : m ≤ 4) (hr : ∀ x ∈ xs, 0 ≤ x ∧ x ≤ 15) (ho : xs.length ≤ 1048576) (h : linB m xs = r) :
    Calls Try.prog 92 #[.agg #[.int .i64 m, .slice a len cap], .slice q xs.length capq] w fun e w' => e = .returned (.bool r) ∧ Below w.heap.size w w' := by
  subst h
  exact lined_any m a q cap capq len xs w hq h4 hr ho
/-- the contract of the search from an order under way -/
def UpOk (m : Nat) (vs : List Int) (a l : Option Addr) (len cap capl f : Nat) : Prop :=
  ∀ (hs : List Int) (w : World) (qb qo capq : Nat), Ints w l vs → Ints w (some ⟨qb, qo, none⟩) hs → hs.length + f = vs.length → (∀ h ∈ hs, 0 ≤ h ∧ h < (vs.length : Int)) →
    Calls Try.prog 51 #[.agg #[.int .i64 m, .slice a len cap], .slice l vs.length capl, .slice (some ⟨qb, qo, none⟩) hs.length capq] w (Gives (upL m vs f hs) w)
set_option maxHeartbeats 8000000 in
set_option maxRecDepth 100000 in
theorem up_zero (m : Nat) (vs : List Int) (a l : Option Addr) (len cap capl : Nat) (h4 : m ≤ 4) (h5 : vs.length ≤ 5) (hr : ∀ x ∈ vs, 0 ≤ x ∧ x ≤ 15) : UpOk m vs a l len cap capl 0 := by
  intro hs w qb qo capq il iq hlen hh
  obtain ⟨i0, hi0, hz0, hz1, hz2⟩ := info_parts info_int
  have bx0 := Box.new w m a len cap 28
  have B0 := bel1 w (.cells #[.int .i64 m, .slice a len cap] 28)
  have il0 := il.below B0
  have iq0 := iq.below B0
  have HP := hide (inRow_mem hh hr)
  obtain ⟨N, hN⟩ : ∃ N, vs.length = N := ⟨_, rfl⟩
  have hKN : hs.length = N := by omega
  rw [hN] at hh h5 ⊢
  rw [hKN]
  have HH := hide hh
  have HE := hide hKN
  have HN := hide hN
  obtain ⟨w1, hw1⟩ : ∃ w1, w.alloc (.cells #[.int .i64 m, .slice a len cap] 28) = w1 := ⟨_, rfl⟩
  rw [hw1] at bx0 B0 il0 iq0
  clear il iq hh hr hlen hN hKN
  go_enter Try.func51, Try.ntmps51
  have ho0 : Owns (w1.alloc (.cells #[] 3)) w1.heap.size (.slice (some ⟨w1.heap.size, 0, none⟩) 0 0) [] := World.ownsRow_lit w1 #[] 0 (Nat.le_refl _) (by simp) rfl
  have BA := bel1 w1 (.cells #[] 3)
  go_wp2
  clear hw1
  go_loopw [7, 8] (fun v i wr => ∃ k : Nat, k ≤ N ∧ i = .int .i64 k ∧ Owns wr w1.heap.size v (inRow vs (hs.take k)) ∧ Below w1.heap.size w1 wr) (fun _ i _ => N - (intOf i).toNat)
  case atStart => exact ⟨0, Nat.zero_le _, rfl, ho0, BA⟩
  case round =>
    clear ho0 BA
    obtain ⟨k, hk, rfl, hown, BR⟩ := hrel
    by_cases hlt : k < N
    · have hlt' : k < hs.length := by rw [HE.out]; exact hlt
      obtain ⟨b, o, e, hb, hc⟩ := (iq0.below BR) (by omega)
      cases e
      have hck := hc k hlt'
      have hm := HH.out _ (mem_of_at hlt')
      have hst := hide (inRow_take vs hs k hlt')
      rw [getD_lt hlt'] at hck hst
      obtain ⟨y, hy⟩ := Int.eq_ofNat_of_zero_le hm.1
      rw [hy] at hck hst hm
      rw [Int.toNat_natCast] at hst
      obtain ⟨lb, lo, rfl, hlb, hlc⟩ := (il0.below BR) (by rw [HN.out]; omega)
      have hcl := hlc y (by rw [HN.out]; omega)
      obtain ⟨z, hz⟩ : ∃ z, vs.getD y 0 = z := ⟨_, rfl⟩
      rw [hz] at hcl hst
      have hyl : y < N := by omega
      have hsz := BR.size
      have hll : (inRow vs (hs.take k)).length ≤ k := by unfold inRow; rw [List.length_map, List.length_take, HE.out]; omega
      obtain ⟨L, hL⟩ : ∃ L, inRow vs (hs.take k) = L := ⟨_, rfl⟩
      rw [hL] at hown hst hll
      clear hc hlc hz hy hL hm hlt'
      go_wp2_with (at_builtin; refine wpList_append_own _ rfl _ _ 22 rfl w1.heap.size 3 i0 (.int .i64 0) 1 8 Try.underlying22 hi0 hz0 hz1 hz2 rfl (by decide) _ _ _ rfl (hown.alloc _) ⟨wr.heap.size, 0, none⟩ 1 1 [.int .i64 (z : Int)] rfl rfl ?c1 ?c2 ?c3 ?c4 ?c5 ?_)
      case c1 => exact cell_one_new _ _ _
      case c2 => intro u hu; simp at hu; subst hu; rfl
      case c3 => unfold maxLen; omega
      case c4 => omega
      case c5 => simp; omega
      intro v' w2 hown' hgrow _
      have hpush := hide (Owns.push hown')
      have hbel : Below w1.heap.size w1 w2 := (BR.alloc hsz _).grown hgrow (by simp; omega) (fun k hk => own_ge hown k hk)
      clear hown' hgrow hown
      go_wp2
      go_roundw
      case rel => exact ⟨k + 1, by omega, by go_num, by rw [hst.out]; exact hpush.out, hbel⟩
      case measure => simp only [intOf]; omega
    · obtain rfl : k = N := by omega
      rw [show hs.take k = hs from by rw [← HE.out, List.take_length]] at hown
      obtain ⟨_, c0, c1⟩ := bx0.below BR
      obtain ⟨av, cv, rfl, iv, _⟩ := hown.form
      have hvl : (inRow vs hs).length ≤ 1048576 := by unfold inRow; rw [List.length_map, HE.out]; omega
      have HIV := hide iv
      obtain ⟨X, hX⟩ : ∃ X, inRow vs hs = X := ⟨_, rfl⟩
      have HXE := hide hX
      rw [hX] at HIV HP hvl ⊢
      clear hown iv hX
      by_cases hlin : linB m X = true
      · have HL := hide hlin
        have HU : Hid (upL m vs 0 hs = hs) := by unfold Hid; rw [upL, HXE.out, if_pos hlin]
        clear hlin
        go_wp2_with fail
        refine (lined_was _ _ _ _ _ _ _ _ true HIV.out h4 HP.out hvl HL.out).mono ?_
        rintro e w5 ⟨rfl, b5⟩
        have B5 := bnext BR b5
        have iq5 := iq0.below B5
        go_wp2_with (at_builtin; refine wpList_append_own _ rfl _ _ 22 rfl w5.heap.size 3 i0 (.int .i64 0) 1 8 Try.underlying22 hi0 hz0 hz1 hz2 rfl (by decide) _ 0 [] rfl (World.ownsRow_lit w5 #[] 0 (Nat.le_refl _) (by simp) rfl) ⟨qb, qo, none⟩ k capq (hs.map (Value.int .i64)) rfl ?d1 ?c1 ?c2 ?c3 ?c4 ?c5 ?_)
        case d1 => rw [List.length_map, HE.out, Nat.mul_one]
        case c1 => exact add_cells (iq5.below (bel1 w5 _))
        case c2 => exact ones_all hs
        case c3 => unfold maxLen; omega
        case c4 => omega
        case c5 => simp
        intro v' w6 hown6 hgrow6 _
        have HO6 : Hid (Owns w6 w5.heap.size v' hs) := by unfold Hid Owns; rw [HE.out]; exact hown6
        have HB6 := hide ((bel1 w5 (.cells #[] 3)).grown hgrow6 (by simp) (fun q hq => by simp [Value.ownBlock] at hq; omega))
        clear hown6 hgrow6
        go_wp2
        go_ret
        exact ⟨v', rfl, by rw [HU.out]; exact HO6.out.le (Nat.le_trans B0.size B5.size), bnext B0 (bnext B5 HB6.out)⟩
      · have hlin : linB m X = false := by simpa using hlin
        have HL := hide hlin
        have HU : Hid (upL m vs 0 hs = []) := by unfold Hid; rw [upL, HXE.out, hlin]; rfl
        clear hlin
        go_wp2_with fail
        refine (lined_was _ _ _ _ _ _ _ _ false HIV.out h4 HP.out hvl HL.out).mono ?_
        rintro e w5 ⟨rfl, b5⟩
        go_wp2
        go_ret
        exact gives_nil HU.out (bnext B0 (bnext BR b5))
set_option maxHeartbeats 16000000 in
set_option maxRecDepth 100000 in
theorem up_succ (m f : Nat) (vs : List Int) (a l : Option Addr) (len cap capl : Nat) (h5 : vs.length ≤ 5) (ih : UpOk m vs a l len cap capl f) : UpOk m vs a l len cap capl (f + 1) := by
  intro hs w qb qo capq il iq hlen hh
  obtain ⟨i0, hi0, hz0, hz1, hz2⟩ := info_parts info_int
  have bx0 := Box.new w m a len cap 28
  have B0 := bel1 w (.cells #[.int .i64 m, .slice a len cap] 28)
  have iq0 := iq.below B0
  obtain ⟨g, hg⟩ : ∃ g : Nat → List Int, g = fun x : Nat => if (x : Int) ∈ hs then [] else upL m vs f (hs ++ [(x : Int)]) := ⟨_, rfl⟩
  have HGI : Hid (∀ x : Nat, (x : Int) ∈ hs → g x = []) := fun x hx => by rw [hg]; exact if_pos hx
  have HGO : Hid (∀ x : Nat, ¬ (x : Int) ∈ hs → g x = upL m vs f (hs ++ [(x : Int)])) := fun x hx => by rw [hg]; exact if_neg hx
  have HUP : Hid (upL m vs (f + 1) hs = firstL g vs.length) := by unfold Hid; rw [hg]; rfl
  have HIH : Hid (∀ (x : Nat) (w' : World) (g2 c2 : Nat), ¬ (x : Int) ∈ hs → x < vs.length → Below w.heap.size w w' → Ints w' (some ⟨g2, 0, none⟩) (hs ++ [(x : Int)]) →
      Calls Try.prog 51 #[.agg #[.int .i64 m, .slice a len cap], .slice l vs.length capl, .slice (some ⟨g2, 0, none⟩) (hs.length + 1) c2] w' (Gives (g x) w')) := fun x w' g2 c2 hx hxl hb hi => by
    have h := ih (hs ++ [(x : Int)]) w' g2 0 c2 (il.below hb) hi (by rw [List.length_append]; simp; omega) (by
      intro h hh'
      rcases List.mem_append.1 hh' with h1 | h1
      · exact hh h h1
      · rw [List.mem_singleton.1 h1]; omega)
    rw [List.length_append, List.length_singleton] at h
    rw [HGO.out x hx]
    exact h
  obtain ⟨N, hN⟩ : ∃ N, vs.length = N := ⟨_, rfl⟩
  obtain ⟨K, hK⟩ : ∃ K, hs.length = K := ⟨_, rfl⟩
  have hKN : K < N := by omega
  have hK5 : K ≤ 5 := by omega
  have hneN : ¬ K = N := by omega
  have hneq : ((K : Int) == (N : Int)) = false := by rw [beq_eq_false_iff_ne]; omega
  rw [hN] at HUP HIH h5 ⊢
  rw [hK] at HIH ⊢
  rw [HUP.out]
  have HK := hide hK
  obtain ⟨w1, hw1⟩ : ∃ w1, w.alloc (.cells #[.int .i64 m, .slice a len cap] 28) = w1 := ⟨_, rfl⟩
  rw [hw1] at bx0 B0 iq0
  clear il iq hh hlen hN hK hg ih HUP
  go_enter Try.func51, Try.ntmps51
  go_wp2
  clear hw1 hneN hneq
  go_loopw [9] (fun y wr => ∃ x : Nat, x ≤ N ∧ y = .int .i64 x ∧ firstL g x = [] ∧ Below w1.heap.size w1 wr) (fun y _ => N - (intOf y).toNat)
  case atStart => exact ⟨0, Nat.zero_le _, rfl, rfl, Below.refl _ _⟩
  case round =>
    obtain ⟨x, hx, rfl, hf, BR⟩ := hrel
    obtain ⟨wo, rfl⟩ : ∃ wo, wo = wr := ⟨_, rfl⟩
    have HF := hide hf
    clear hf
    by_cases hlt : x < N
    · go_wp2
      go_loopw [10, 11] (fun u i wr => ∃ k : Nat, k ≤ K ∧ i = .int .i64 k ∧ u = .bool (decide ((x : Int) ∈ hs.take k)) ∧ Below w1.heap.size w1 wr) (fun _ i _ => K - (intOf i).toNat)
      case atStart => exact ⟨0, Nat.zero_le _, rfl, by simp, BR⟩
      case round =>
        clear BR
        obtain ⟨k, hk, rfl, rfl, BR⟩ := hrel
        obtain ⟨wk, rfl⟩ : ∃ wk, wk = wr := ⟨_, rfl⟩
        by_cases hkt : k < K
        · have hkt' : k < hs.length := by rw [HK.out]; exact hkt
          obtain ⟨b, o, e, hb, hc⟩ := (iq0.below BR) (by omega)
          cases e
          have hck := hc k hkt'
          rw [getD_lt hkt'] at hck
          have hst : Hid (((x : Int) ∈ hs.take (k + 1)) ↔ ((x : Int) ∈ hs.take k ∨ hs[k] = (x : Int))) := by
            unfold Hid
            rw [List.take_add_one, List.getElem?_eq_getElem hkt', List.mem_append]
            simp [eq_comm]
          obtain ⟨y, hy⟩ : ∃ y, hs[k] = y := ⟨_, rfl⟩
          rw [hy] at hck hst
          have HBR := hide BR
          clear hc hy hkt' BR
          by_cases hu : (x : Int) ∈ hs.take k
          · have hd : decide ((x : Int) ∈ hs.take k) = true := decide_eq_true hu
            have HU := hide (decide_eq_true (hst.out.2 (.inl hu)))
            rw [hd]
            clear hd hu hst
            go_wp2
            go_roundw
            case rel => exact ⟨k + 1, by omega, by go_num, by rw [HU.out], HBR.out⟩
            case measure => simp only [intOf]; omega
          · have hd : decide ((x : Int) ∈ hs.take k) = false := decide_eq_false hu
            rw [hd]
            by_cases hyx : y = (x : Int)
            · have hb1 : (y == (x : Int)) = true := by simp [hyx]
              have HU := hide (decide_eq_true (hst.out.2 (.inr hyx)))
              clear hd hu hst hyx
              go_wp2
              go_roundw
              case rel => exact ⟨k + 1, by omega, by go_num, by rw [HU.out], HBR.out⟩
              case measure => simp only [intOf]; omega
            · have hb1 : (y == (x : Int)) = false := by simp [hyx]
              have HU := hide (decide_eq_false (fun h => (hst.out.1 h).elim hu hyx))
              clear hd hu hst hyx
              go_wp2
              go_roundw
              case rel => exact ⟨k + 1, by omega, by go_num, by rw [HU.out], HBR.out⟩
              case measure => simp only [intOf]; omega
        · obtain rfl : k = K := by omega
          rw [show hs.take k = hs from by rw [← HK.out, List.take_length]]
          by_cases hin : (x : Int) ∈ hs
          · have HN1 := hide (firstL_none HF.out (HGI.out x hin))
            rw [decide_eq_true hin]
            have HBR := hide BR
            clear hin BR
            go_wp2
            go_roundw
            case rel => exact ⟨x + 1, by omega, by go_num, HN1.out, HBR.out⟩
            case measure => simp only [intOf]; omega
          · rw [decide_eq_false hin]
            have HBR0 := hide BR
            have HBR := hide (bnext B0 BR)
            have HBX := hide (bx0.below BR)
            have HC : Hid (∀ W, Below wk.heap.size wk W → ∀ j u, (hs.map (Value.int .i64))[j]? = some u → W.cell? ((⟨qb, qo, none⟩ : Addr).add j) = some u) := fun W hb => add_cells ((iq0.below BR).below hb)
            have HO1 := hide (ones_all hs)
            have HKX : Hid ((hs ++ [(x : Int)]).length = k + 1) := by unfold Hid; rw [List.length_append, HK.out]; rfl
            have HIX := hide (fun (w' : World) (g2 c2 : Nat) (hb : Below wk.heap.size wk w') hi => HIH.out x w' g2 c2 hin hlt (bnext HBR.out hb) hi)
            have hfo : g x ≠ [] → firstL g N = g x := fun h => by
              have := firstL_some HF.out h (N - (x + 1))
              rwa [show x + 1 + (N - (x + 1)) = N by omega] at this
            have hfn : g x = [] → firstL g (x + 1) = [] := fun h => firstL_none HF.out h
            obtain ⟨r, hr⟩ : ∃ r, g x = r := ⟨_, rfl⟩
            rw [hr] at HIX hfo hfn
            have HFO : Hid (0 < r.length → firstL g N = r) := fun h => hfo (fun e => by rw [e] at h; simp at h)
            have HFN : Hid (¬ 0 < r.length → firstL g (x + 1) = []) := fun h => hfn (List.length_eq_zero_iff.1 (by omega))
            have HO3 : Hid (((wk.alloc (.cells #[.int .i64 (x : Int)] 3)).alloc (.cells #[] 3)).drew.ownsRow wk.heap.size 3 1 (.slice (some ⟨wk.heap.size + 1, 0, none⟩) 0 0) 0 []) := by
              have h := (World.ownsRow_lit (base := wk.heap.size) (e := 3) (size := 1) (wk.alloc (.cells #[.int .i64 (x : Int)] 3)) #[] 0 (by simp) (by simp) rfl).drew
              rwa [show (wk.alloc (.cells #[.int .i64 (x : Int)] 3)).heap.size = wk.heap.size + 1 from by simp] at h
            obtain ⟨_, c0, c1⟩ := HBX.out
            clear hin BR hr hfo hfn
            go_wp2
            refine wp_region_held_drew (S := (fun w' => w'.cell? ⟨w.heap.size, 0, none⟩ = some (.int .i64 (m : Int)) ∧ w'.cell? ⟨w.heap.size, 1, none⟩ = some (.slice a len cap))) (by kernel_rfl) ?_ (fun hHeld => ?_)
            · exact ⟨c0, c1⟩
            refine wpAnyH_take (i := 0) (v := ?vvt1) rfl (by kernel_rfl) (by kernel_rfl) (by kernel_rfl) (fun _ _ _ h => h) (Or.inl ⟨by rfl, ?hyt1⟩) (by assumption) ?restt1
            case hyt1 => (intro w hSw; (try dsimp only at hSw); go_simp; (try with_reducible rfl))
            case restt1 =>
              (try simp only [Act.put, List.setIfInBounds_toArray, List.set_cons_zero, List.set_cons_succ, List.getElem_toArray, List.getElem_cons_zero])
              refine wpAnyH_take (i := 1) (v := ?vvt2) rfl (by kernel_rfl) (by kernel_rfl) (by kernel_rfl) (fun _ _ _ h => h) (Or.inl ⟨by rfl, ?hyt2⟩) (by assumption) ?restt2
              case hyt2 => (intro w hSw; (try dsimp only at hSw); go_simp; (try with_reducible rfl))
              case restt2 =>
                (try simp only [Act.put, List.setIfInBounds_toArray, List.set_cons_zero, List.set_cons_succ, List.getElem_toArray, List.getElem_cons_zero, List.getElem_cons_succ])
                refine wpAnyH_take (i := 3) (v := ?vvt3) rfl (by kernel_rfl) (by kernel_rfl) (by kernel_rfl) (fun _ _ _ h => h) (Or.inl ⟨by rfl, ?hyt3⟩) (by assumption) ?restt3
                case hyt3 => (intro w hSw; (try dsimp only at hSw); go_simp; (try with_reducible rfl))
                case restt3 =>
                  (try simp only [Act.put, List.setIfInBounds_toArray, List.set_cons_zero, List.set_cons_succ, List.getElem_toArray, List.getElem_cons_zero, List.getElem_cons_succ])
                  refine wpAnyH_take (i := 5) (v := ?vvt4) rfl (by kernel_rfl) (by kernel_rfl) (by kernel_rfl) (fun _ _ _ h => h) (Or.inl ⟨by rfl, ?hyt4⟩) (by assumption) ?restt4
                  case hyt4 => (intro w hSw; (try dsimp only at hSw); go_simp; (try with_reducible rfl))
                  case restt4 =>
                    (try simp only [Act.put, List.setIfInBounds_toArray, List.set_cons_zero, List.set_cons_succ, List.getElem_toArray, List.getElem_cons_zero, List.getElem_cons_succ])
                    refine wpAnyH_ready (rs := [2, 6]) (by kernel_rfl) (by simp) ?_
                    refine (AllReadyH.cons rfl (fun K hK => ?_) (AllReadyH.cons rfl (fun K hK => ?_) AllReadyH.nil))
                    · go_simp
                      refine hK.out _ _ ?_ (fun hHeld => ?_)
                      · exact ⟨(HBX.out.below (bdrew' (bel1 wk (.cells #[] 3)))).2.1, (HBX.out.below (bdrew' (bel1 wk (.cells #[] 3)))).2.2⟩
                      clear hK K
                      (try simp only [Act.put, List.setIfInBounds_toArray, List.set_cons_zero, List.set_cons_succ, List.getElem_toArray, List.getElem_cons_zero, List.getElem_cons_succ])
                      refine wpAnyH_ready (rs := [4, 6]) (by kernel_rfl) (by simp) ?_
                      refine (AllReadyH.cons rfl (fun K hK => ?_) (AllReadyH.cons rfl (fun K hK => ?_) AllReadyH.nil))
                      · have BW := bdrew' (bel1 wk (.cells #[] 3))
                        (refine step_append_own (by rfl) _ _ _ (by rfl) wk.heap.size 3 i0 (.int .i64 0) 1 8 Try.underlying22 hi0 hz0 hz1 hz2 rfl (by decide) _ 0 [] (by rfl) (World.ownsRow_lit wk #[] 0 (Nat.le_refl _) (by simp) rfl).drew ⟨qb, qo, none⟩ k capq (hs.map (Value.int .i64)) (by rfl) (by rw [List.length_map, Nat.mul_one]; exact HK.out) (HC.out _ BW) HO1.out (by unfold maxLen; omega) (by omega) (by first | (simp; done) | (simp; omega)) ?_)
                        intro v1 W1 own1 grow1 hnil1
                        rw [List.nil_append, Nat.zero_add] at own1
                        have B1 := BW.grown grow1 (by first | (simp; done) | (simp; omega)) (fun q hq => by simp [Value.ownBlock] at hq; omega)
                        have hn1 : v1 ≠ .slice none 0 0 := fun e => by have := (hnil1.1 e).1; cases this
                        clear BW grow1 hnil1
                        refine hK.out _ _ ?_ (fun hHeld => ?_)
                        · exact ⟨(HBX.out.below B1).2.1, (HBX.out.below B1).2.2⟩
                        clear hK K
                        (try simp only [Act.put, List.setIfInBounds_toArray, List.set_cons_zero, List.set_cons_succ, List.getElem_toArray, List.getElem_cons_zero, List.getElem_cons_succ])
                        refine wpAnyH_ready (rs := [6]) (by kernel_rfl) (by simp) ?_
                        refine (AllReadyH.cons rfl (fun K hK => ?_) AllReadyH.nil)
                        go_simp
                        refine hK.out _ _ ?_ (fun hHeld => ?_)
                        · exact ⟨(HBX.out.below (B1.alloc B1.size (.cells #[.int .i64 (x : Int)] 3))).2.1, (HBX.out.below (B1.alloc B1.size (.cells #[.int .i64 (x : Int)] 3))).2.2⟩
                        clear hK K
                        (try simp only [Act.put, List.setIfInBounds_toArray, List.set_cons_zero, List.set_cons_succ, List.getElem_toArray, List.getElem_cons_zero, List.getElem_cons_succ])
                        refine wpAnyH_ready (rs := [7]) (by kernel_rfl) (by simp) ?_
                        refine (AllReadyH.cons rfl (fun K hK => ?_) AllReadyH.nil)
                        (refine step_append_own (by rfl) _ _ _ (by rfl) wk.heap.size 3 i0 (.int .i64 0) 1 8 Try.underlying22 hi0 hz0 hz1 hz2 rfl (by decide) _ k (hs.map (Value.int .i64)) (by rfl) (own1.alloc _) ⟨W1.heap.size, 0, none⟩ 1 1 [.int .i64 (x : Int)] (by rfl) rfl (World.news_of_block (cs := #[.int .i64 (x : Int)]) (t := 3) (fr := (0, 0)) (heap_alloc_new W1 _)) (by intro u hu; simp at hu; subst hu; rfl) (by unfold maxLen; omega) (by omega) (by simp; have := B1.size; omega) ?_)
                        intro v2 W2 own2 grow2 hnil2
                        have B2 := (B1.alloc B1.size _).grown grow2 (by simp; have := B1.size; omega) (fun q hq => (World.ownsRow.lt own1 q hq).1)
                        have hn2 : v2 ≠ .slice none 0 0 := fun e => hn1 (hnil2.1 e).1
                        clear grow2 hnil2 own1 B1 hn1
                        have O2 : Owns W2 wk.heap.size v2 (hs ++ [(x : Int)]) := by
                          unfold Owns
                          rw [List.length_append, HK.out, List.map_append]
                          exact own2
                        obtain ⟨g2, c2, rfl, i2, hl2⟩ := own_list O2 hn2
                        rw [HKX.out]
                        have I2 := hide i2
                        have HB2 := hide B2
                        clear own2 O2 hn2 hl2 B2 i2
                        refine hK.out _ _ ?_ (fun hHeld => ?_)
                        · exact ⟨(HBX.out.below HB2.out).2.1, (HBX.out.below HB2.out).2.2⟩
                        clear hK K
                        (try simp only [Act.put, List.setIfInBounds_toArray, List.set_cons_zero, List.set_cons_succ, List.getElem_toArray, List.getElem_cons_zero, List.getElem_cons_succ])
                        refine wpAnyH_ready (rs := [8]) (by kernel_rfl) (by simp) ?_
                        refine (AllReadyH.cons rfl (fun K hK => ?_) AllReadyH.nil)
                        go_simp
                        (go_at_call 51; refine (HIX.out W2 g2 c2 HB2.out I2.out).mono ?_)
                        rintro e W3 ⟨v3, rfl, o3, b3⟩
                        have B3 := hide (bnext HB2.out b3)
                        have O3 := hide (o3.le HB2.out.size)
                        obtain ⟨a3, c3, rfl, _⟩ := o3.form
                        clear o3 b3
                        refine hK.out _ _ ?_ (fun hHeld => ?_)
                        · exact ⟨(HBX.out.below B3.out).2.1, (HBX.out.below B3.out).2.2⟩
                        clear hK K
                        (try simp only [Act.put, List.setIfInBounds_toArray, List.set_cons_zero, List.set_cons_succ, List.getElem_toArray, List.getElem_cons_zero, List.getElem_cons_succ])
                        refine wpAnyH_take (i := 9) (v := ?vvt5) rfl (by kernel_rfl) (by kernel_rfl) (by kernel_rfl) (fun _ _ _ h => h) (Or.inl ⟨by rfl, ?hyt5⟩) (by assumption) ?restt5
                        case hyt5 => (intro w hSw; (try dsimp only at hSw); go_simp; (try with_reducible rfl))
                        case restt5 =>
                          (try simp only [Act.put, List.setIfInBounds_toArray, List.set_cons_zero, List.set_cons_succ, List.getElem_toArray, List.getElem_cons_zero, List.getElem_cons_succ])
                          refine wpAnyH_done (by kernel_rfl) ?_ _
                          by_cases hne : 0 < r.length
                          · go_wp2
                            go_ret
                            exact ⟨_, rfl, by rw [HFO.out hne]; exact O3.out.le HBR.out.size, bnext HBR.out B3.out⟩
                          · go_wp2
                            go_roundw
                            case rel => exact ⟨x + 1, by omega, by go_num, HFN.out (by omega), bnext HBR0.out B3.out⟩
                            case measure => simp only [intOf]; omega
                      · go_simp
                        refine hK.out _ _ ?_ (fun hHeld => ?_)
                        · exact ⟨(HBX.out.below (bdrew' (bel2 wk (.cells #[] 3) (.cells #[.int .i64 (x : Int)] 3)))).2.1, (HBX.out.below (bdrew' (bel2 wk (.cells #[] 3) (.cells #[.int .i64 (x : Int)] 3)))).2.2⟩
                        clear hK K
                        (try simp only [Act.put, List.setIfInBounds_toArray, List.set_cons_zero, List.set_cons_succ, List.getElem_toArray, List.getElem_cons_zero, List.getElem_cons_succ])
                        refine wpAnyH_ready (rs := [4]) (by kernel_rfl) (by simp) ?_
                        refine (AllReadyH.cons rfl (fun K hK => ?_) AllReadyH.nil)
                        have BW := bdrew' (bel2 wk (.cells #[] 3) (.cells #[.int .i64 (x : Int)] 3))
                        (refine step_append_own (by rfl) _ _ _ (by rfl) wk.heap.size 3 i0 (.int .i64 0) 1 8 Try.underlying22 hi0 hz0 hz1 hz2 rfl (by decide) _ 0 [] (by rfl) ((World.ownsRow_lit wk #[] 0 (Nat.le_refl _) (by simp) rfl).alloc (.cells #[.int .i64 (x : Int)] 3)).drew ⟨qb, qo, none⟩ k capq (hs.map (Value.int .i64)) (by rfl) (by rw [List.length_map, Nat.mul_one]; exact HK.out) (HC.out _ BW) HO1.out (by unfold maxLen; omega) (by omega) (by first | (simp; done) | (simp; omega)) ?_)
                        intro v1 W1 own1 grow1 hnil1
                        rw [List.nil_append, Nat.zero_add] at own1
                        have B1 := BW.grown grow1 (by first | (simp; done) | (simp; omega)) (fun q hq => by simp [Value.ownBlock] at hq; omega)
                        have hn1 : v1 ≠ .slice none 0 0 := fun e => by have := (hnil1.1 e).1; cases this
                        have hXb : W1.heap[wk.heap.size + 1]? = some (.cells #[.int .i64 (x : Int)] 3 (0, 0)) := (grow1.block _ (by first | (simp; done) | (simp; omega)) (by simp [Value.ownBlock])).trans (by show ((wk.alloc (.cells #[] 3)).alloc (.cells #[.int .i64 (x : Int)] 3)).heap[wk.heap.size + 1]? = _; have h := heap_alloc_new (wk.alloc (.cells #[] 3)) (.cells #[.int .i64 (x : Int)] 3); simpa using h)
                        clear BW grow1 hnil1
                        refine hK.out _ _ ?_ (fun hHeld => ?_)
                        · exact ⟨(HBX.out.below B1).2.1, (HBX.out.below B1).2.2⟩
                        clear hK K
                        (try simp only [Act.put, List.setIfInBounds_toArray, List.set_cons_zero, List.set_cons_succ, List.getElem_toArray, List.getElem_cons_zero, List.getElem_cons_succ])
                        refine wpAnyH_ready (rs := [7]) (by kernel_rfl) (by simp) ?_
                        refine (AllReadyH.cons rfl (fun K hK => ?_) AllReadyH.nil)
                        (refine step_append_own (by rfl) _ _ _ (by rfl) wk.heap.size 3 i0 (.int .i64 0) 1 8 Try.underlying22 hi0 hz0 hz1 hz2 rfl (by decide) _ k (hs.map (Value.int .i64)) (by rfl) own1 ⟨wk.heap.size + 1, 0, none⟩ 1 1 [.int .i64 (x : Int)] (by rfl) rfl (World.news_of_block (cs := #[.int .i64 (x : Int)]) (t := 3) (fr := (0, 0)) hXb) (by intro u hu; simp at hu; subst hu; rfl) (by unfold maxLen; omega) (by omega) B1.size ?_)
                        intro v2 W2 own2 grow2 hnil2
                        have B2 := (B1).grown grow2 B1.size (fun q hq => (World.ownsRow.lt own1 q hq).1)
                        have hn2 : v2 ≠ .slice none 0 0 := fun e => hn1 (hnil2.1 e).1
                        clear grow2 hnil2 own1 B1 hn1 hXb
                        have O2 : Owns W2 wk.heap.size v2 (hs ++ [(x : Int)]) := by
                          unfold Owns
                          rw [List.length_append, HK.out, List.map_append]
                          exact own2
                        obtain ⟨g2, c2, rfl, i2, hl2⟩ := own_list O2 hn2
                        rw [HKX.out]
                        have I2 := hide i2
                        have HB2 := hide B2
                        clear own2 O2 hn2 hl2 B2 i2
                        refine hK.out _ _ ?_ (fun hHeld => ?_)
                        · exact ⟨(HBX.out.below HB2.out).2.1, (HBX.out.below HB2.out).2.2⟩
                        clear hK K
                        (try simp only [Act.put, List.setIfInBounds_toArray, List.set_cons_zero, List.set_cons_succ, List.getElem_toArray, List.getElem_cons_zero, List.getElem_cons_succ])
                        refine wpAnyH_ready (rs := [8]) (by kernel_rfl) (by simp) ?_
                        refine (AllReadyH.cons rfl (fun K hK => ?_) AllReadyH.nil)
                        go_simp
                        (go_at_call 51; refine (HIX.out W2 g2 c2 HB2.out I2.out).mono ?_)
                        rintro e W3 ⟨v3, rfl, o3, b3⟩
                        have B3 := hide (bnext HB2.out b3)
                        have O3 := hide (o3.le HB2.out.size)
                        obtain ⟨a3, c3, rfl, _⟩ := o3.form
                        clear o3 b3
                        refine hK.out _ _ ?_ (fun hHeld => ?_)
                        · exact ⟨(HBX.out.below B3.out).2.1, (HBX.out.below B3.out).2.2⟩
                        clear hK K
                        (try simp only [Act.put, List.setIfInBounds_toArray, List.set_cons_zero, List.set_cons_succ, List.getElem_toArray, List.getElem_cons_zero, List.getElem_cons_succ])
                        refine wpAnyH_take (i := 9) (v := ?vvt6) rfl (by kernel_rfl) (by kernel_rfl) (by kernel_rfl) (fun _ _ _ h => h) (Or.inl ⟨by rfl, ?hyt6⟩) (by assumption) ?restt6
                        case hyt6 => (intro w hSw; (try dsimp only at hSw); go_simp; (try with_reducible rfl))
                        case restt6 =>
                          (try simp only [Act.put, List.setIfInBounds_toArray, List.set_cons_zero, List.set_cons_succ, List.getElem_toArray, List.getElem_cons_zero, List.getElem_cons_succ])
                          refine wpAnyH_done (by kernel_rfl) ?_ _
                          by_cases hne : 0 < r.length
                          · go_wp2
                            go_ret
                            exact ⟨_, rfl, by rw [HFO.out hne]; exact O3.out.le HBR.out.size, bnext HBR.out B3.out⟩
                          · go_wp2
                            go_roundw
                            case rel => exact ⟨x + 1, by omega, by go_num, HFN.out (by omega), bnext HBR0.out B3.out⟩
                            case measure => simp only [intOf]; omega
                    · go_simp
                      refine hK.out _ _ ?_ (fun hHeld => ?_)
                      · exact ⟨(HBX.out.below (bdrew' (bel1 wk (.cells #[.int .i64 (x : Int)] 3)))).2.1, (HBX.out.below (bdrew' (bel1 wk (.cells #[.int .i64 (x : Int)] 3)))).2.2⟩
                      clear hK K
                      (try simp only [Act.put, List.setIfInBounds_toArray, List.set_cons_zero, List.set_cons_succ, List.getElem_toArray, List.getElem_cons_zero, List.getElem_cons_succ])
                      refine wpAnyH_ready (rs := [2]) (by kernel_rfl) (by simp) ?_
                      refine (AllReadyH.cons rfl (fun K hK => ?_) AllReadyH.nil)
                      go_simp
                      refine hK.out _ _ ?_ (fun hHeld => ?_)
                      · exact ⟨(HBX.out.below (bdrew' (bel2 wk (.cells #[.int .i64 (x : Int)] 3) (.cells #[] 3)))).2.1, (HBX.out.below (bdrew' (bel2 wk (.cells #[.int .i64 (x : Int)] 3) (.cells #[] 3)))).2.2⟩
                      clear hK K
                      (try simp only [Act.put, List.setIfInBounds_toArray, List.set_cons_zero, List.set_cons_succ, List.getElem_toArray, List.getElem_cons_zero, List.getElem_cons_succ])
                      refine wpAnyH_ready (rs := [4]) (by kernel_rfl) (by simp) ?_
                      refine (AllReadyH.cons rfl (fun K hK => ?_) AllReadyH.nil)
                      have BW := bdrew' (bel2 wk (.cells #[.int .i64 (x : Int)] 3) (.cells #[] 3))
                      (refine step_append_own (by rfl) _ _ _ (by rfl) wk.heap.size 3 i0 (.int .i64 0) 1 8 Try.underlying22 hi0 hz0 hz1 hz2 rfl (by decide) _ 0 [] (by rfl) HO3.out ⟨qb, qo, none⟩ k capq (hs.map (Value.int .i64)) (by rfl) (by rw [List.length_map, Nat.mul_one]; exact HK.out) (HC.out _ BW) HO1.out (by unfold maxLen; omega) (by omega) (by first | (simp; done) | (simp; omega)) ?_)
                      intro v1 W1 own1 grow1 hnil1
                      rw [List.nil_append, Nat.zero_add] at own1
                      have B1 := BW.grown grow1 (by first | (simp; done) | (simp; omega)) (fun q hq => by simp [Value.ownBlock] at hq; omega)
                      have hn1 : v1 ≠ .slice none 0 0 := fun e => by have := (hnil1.1 e).1; cases this
                      have hXb : W1.heap[wk.heap.size]? = some (.cells #[.int .i64 (x : Int)] 3 (0, 0)) := (grow1.block _ (by first | (simp; done) | (simp; omega)) (by simp [Value.ownBlock])).trans (by show ((wk.alloc (.cells #[.int .i64 (x : Int)] 3)).alloc (.cells #[] 3)).heap[wk.heap.size]? = _; exact ((bel1 (wk.alloc (.cells #[.int .i64 (x : Int)] 3)) (.cells #[] 3)).block _ (by first | (simp; done) | (simp; omega))).trans (heap_alloc_new wk (.cells #[.int .i64 (x : Int)] 3)))
                      clear BW grow1 hnil1
                      refine hK.out _ _ ?_ (fun hHeld => ?_)
                      · exact ⟨(HBX.out.below B1).2.1, (HBX.out.below B1).2.2⟩
                      clear hK K
                      (try simp only [Act.put, List.setIfInBounds_toArray, List.set_cons_zero, List.set_cons_succ, List.getElem_toArray, List.getElem_cons_zero, List.getElem_cons_succ])
                      refine wpAnyH_ready (rs := [7]) (by kernel_rfl) (by simp) ?_
                      refine (AllReadyH.cons rfl (fun K hK => ?_) AllReadyH.nil)
                      (refine step_append_own (by rfl) _ _ _ (by rfl) wk.heap.size 3 i0 (.int .i64 0) 1 8 Try.underlying22 hi0 hz0 hz1 hz2 rfl (by decide) _ k (hs.map (Value.int .i64)) (by rfl) own1 ⟨wk.heap.size, 0, none⟩ 1 1 [.int .i64 (x : Int)] (by rfl) rfl (World.news_of_block (cs := #[.int .i64 (x : Int)]) (t := 3) (fr := (0, 0)) hXb) (by intro u hu; simp at hu; subst hu; rfl) (by unfold maxLen; omega) (by omega) B1.size ?_)
                      intro v2 W2 own2 grow2 hnil2
                      have B2 := (B1).grown grow2 B1.size (fun q hq => (World.ownsRow.lt own1 q hq).1)
                      have hn2 : v2 ≠ .slice none 0 0 := fun e => hn1 (hnil2.1 e).1
                      clear grow2 hnil2 own1 B1 hn1 hXb
                      have O2 : Owns W2 wk.heap.size v2 (hs ++ [(x : Int)]) := by
                        unfold Owns
                        rw [List.length_append, HK.out, List.map_append]
                        exact own2
                      obtain ⟨g2, c2, rfl, i2, hl2⟩ := own_list O2 hn2
                      rw [HKX.out]
                      have I2 := hide i2
                      have HB2 := hide B2
                      clear own2 O2 hn2 hl2 B2 i2
                      refine hK.out _ _ ?_ (fun hHeld => ?_)
                      · exact ⟨(HBX.out.below HB2.out).2.1, (HBX.out.below HB2.out).2.2⟩
                      clear hK K
                      (try simp only [Act.put, List.setIfInBounds_toArray, List.set_cons_zero, List.set_cons_succ, List.getElem_toArray, List.getElem_cons_zero, List.getElem_cons_succ])
                      refine wpAnyH_ready (rs := [8]) (by kernel_rfl) (by simp) ?_
                      refine (AllReadyH.cons rfl (fun K hK => ?_) AllReadyH.nil)
                      go_simp
                      (go_at_call 51; refine (HIX.out W2 g2 c2 HB2.out I2.out).mono ?_)
                      rintro e W3 ⟨v3, rfl, o3, b3⟩
                      have B3 := hide (bnext HB2.out b3)
                      have O3 := hide (o3.le HB2.out.size)
                      obtain ⟨a3, c3, rfl, _⟩ := o3.form
                      clear o3 b3
                      refine hK.out _ _ ?_ (fun hHeld => ?_)
                      · exact ⟨(HBX.out.below B3.out).2.1, (HBX.out.below B3.out).2.2⟩
                      clear hK K
                      (try simp only [Act.put, List.setIfInBounds_toArray, List.set_cons_zero, List.set_cons_succ, List.getElem_toArray, List.getElem_cons_zero, List.getElem_cons_succ])
                      refine wpAnyH_take (i := 9) (v := ?vvt7) rfl (by kernel_rfl) (by kernel_rfl) (by kernel_rfl) (fun _ _ _ h => h) (Or.inl ⟨by rfl, ?hyt7⟩) (by assumption) ?restt7
                      case hyt7 => (intro w hSw; (try dsimp only at hSw); go_simp; (try with_reducible rfl))
                      case restt7 =>
                        (try simp only [Act.put, List.setIfInBounds_toArray, List.set_cons_zero, List.set_cons_succ, List.getElem_toArray, List.getElem_cons_zero, List.getElem_cons_succ])
                        refine wpAnyH_done (by kernel_rfl) ?_ _
                        by_cases hne : 0 < r.length
                        · go_wp2
                          go_ret
                          exact ⟨_, rfl, by rw [HFO.out hne]; exact O3.out.le HBR.out.size, bnext HBR.out B3.out⟩
                        · go_wp2
                          go_roundw
                          case rel => exact ⟨x + 1, by omega, by go_num, HFN.out (by omega), bnext HBR0.out B3.out⟩
                          case measure => simp only [intOf]; omega
    · obtain rfl : x = N := by omega
      have HBR := hide (bnext B0 BR)
      go_wp2
      go_ret
      exact gives_nil HF.out HBR.out
theorem lineUp_any (m : Nat) (vs : List Int) (a l : Option Addr) (len cap capl : Nat) (h4 : m ≤ 4) (h5 : vs.length ≤ 5) (hr : ∀ x ∈ vs, 0 ≤ x ∧ x ≤ 15) : ∀ f, UpOk m vs a l len cap capl f
  | 0 => up_zero m vs a l len cap capl h4 h5 hr
  | f + 1 => up_succ m f vs a l len cap capl h5 (lineUp_any m vs a l len cap capl h4 h5 hr f)
end Go.Proofs.Ytccemllgglfgkaa
