/- BetweenOf in the model and in the program. -/
import Derived.Test.YtljbapfemjdneaaHullI
import Derived.Test.YtljbapfemjdneaaGap
import Derived.Test.YtljbapfemjdneaaListLaw
namespace Go.Proofs.Ytljbapfemjdneaa
open Go.RowKit Go.Joins

theorem gapI_any (x y : Int) (w : World) (hx : 0 ≤ x ∧ x ≤ 15) (hy : 0 ≤ y ∧ y ≤ 15) : Calls Try.prog 85 #[.int .i64 x, .int .i64 y] w fun e w' => e = .returned (.int .i64 (wt (x.toNat ^^^ y.toNat))) ∧ w = w' := by
  obtain ⟨a, rfl⟩ := Int.eq_ofNat_of_zero_le hx.1
  obtain ⟨b, rfl⟩ := Int.eq_ofNat_of_zero_le hy.1
  exact gap_any a b w (by omega) (by omega)

def btwP (x y z : Int) : Bool := wt (x.toNat ^^^ z.toNat) + wt (z.toNat ^^^ y.toNat) == wt (x.toNat ^^^ y.toNat)
def BtwOk (n : Int) (zs : List Int) (x y : Int) : Prop := Valid n zs ∧ x ∈ zs ∧ y ∈ zs
instance (n : Int) (zs : List Int) (x y : Int) : Decidable (BtwOk n zs x y) := by unfold BtwOk; infer_instance
def btwL (n : Int) (zs : List Int) (x y : Int) : List Int := if BtwOk n zs x y then zs.filter (btwP x y) else []
theorem btwL_yes {n : Int} {zs : List Int} {x y : Int} (h : BtwOk n zs x y) : btwL n zs x y = zs.filter (btwP x y) := if_pos h
theorem btwL_no {n : Int} {zs : List Int} {x y : Int} (h : ¬ BtwOk n zs x y) : btwL n zs x y = [] := if_neg h
theorem btwL_len (n : Int) (zs : List Int) (x y : Int) : (btwL n zs x y).length ≤ zs.length := by
  unfold btwL
  split
  · exact List.length_filter_le _ _
  · simp

theorem btw_fin : ∀ m : Fin 5, ∀ x : Fin 16, ∀ y : Fin 16, ∀ z : Fin 16, x.val < 2 ^ m.val → y.val < 2 ^ m.val → z.val < 2 ^ m.val →
    ((z.val ^^^ x.val) &&& ((2 ^ m.val - 1) - ((2 ^ m.val - 1) &&& (y.val ^^^ x.val))) == 0) = (wt (x.val ^^^ z.val) + wt (z.val ^^^ y.val) == wt (x.val ^^^ y.val)) := by
  decide +kernel
theorem btw_eq (n : Int) (zs : List Int) (x y : Int) : hullL n zs [x, y] = btwL n zs x y := by
  by_cases h : BtwOk n zs x y
  · have hH : HullOk n zs [x, y] := ⟨h.1, ⟨by simp, by simp⟩, fun j hj => by
      match j, hj with
      | 0, _ => simpa using h.2.1
      | 1, _ => simpa using h.2.2⟩
    rw [hullL_yes hH, btwL_yes h]
    refine List.filter_congr (fun z hz => ?_)
    have hV := h.1
    have hr : ∀ t ∈ zs, 0 ≤ t ∧ t ≤ pw n - 1 := fun t ht => by
      obtain ⟨j, hj, rfl⟩ := List.getElem_of_mem ht
      have := (hV.2.2 j hj).1
      rwa [getD_lt hj] at this
    have hx := hr x h.2.1
    have hy := hr y h.2.2
    have hz' := hr z hz
    have hn := hV.1
    have p2 := pw_le n hn.2
    have hp : pw n = ((2 ^ n.toNat : Nat) : Int) := rfl
    have key := btw_fin ⟨n.toNat, by omega⟩ ⟨x.toNat, by omega⟩ ⟨y.toNat, by omega⟩ ⟨z.toNat, by omega⟩ (by show x.toNat < 2 ^ n.toNat; omega) (by show y.toNat < 2 ^ n.toNat; omega) (by show z.toNat < 2 ^ n.toNat; omega)
    dsimp only at key
    unfold hullP btwP
    rw [← key]
    have e0 : ([x, y] : List Int).getD 0 0 = x := rfl
    have e1 : ([x, y] : List Int).getD 1 0 = y := rfl
    have hc : careK n [x, y] ([x, y] : List Int).length = (2 ^ n.toNat - 1) - ((2 ^ n.toNat - 1) &&& (y.toNat ^^^ x.toNat)) := by
      show careK n [x, y] 2 = _
      have h0 : careK n [x, y] 0 = 2 ^ n.toNat - 1 := by unfold careK; omega
      have h1 : careK n [x, y] 1 = 2 ^ n.toNat - 1 := by rw [careK, h0, e0, Nat.xor_self, Nat.and_zero, Nat.sub_zero]
      rw [careK, h1, e0, e1]
    rw [hc, e0]
  · rw [btwL_no h, hullL_no]
    intro hH
    refine h ⟨hH.1, ?_, ?_⟩
    · simpa using hH.2.2 0 (by simp)
    · simpa using hH.2.2 1 (by simp)

theorem implBetweenOf_any (n x y : Int) (a : Option Addr) (cap : Nat) (zs : List Int) (w : World) (hi : Ints w a zs) (hn : zs.length ≤ 1048576) :
    Calls Try.prog 33 #[.agg #[.int .i64 n, .slice a zs.length cap], .int .i64 x, .int .i64 y] w (Gives (btwL n zs x y) w) := by
  have hB := bel2 w (.cells #[.int .i64 n, .slice a zs.length cap] 25) (.cells #[.int .i64 x, .int .i64 y] 3)
  have il : Ints ((w.alloc (.cells #[.int .i64 n, .slice a zs.length cap] 25)).alloc (.cells #[.int .i64 x, .int .i64 y] 3)) (some ⟨w.heap.size + 1, 0, none⟩) [x, y] := fun _ =>
    ⟨w.heap.size + 1, 0, rfl, by simp, fun k hk => by
      match k, hk with
      | 0, _ => simp [go_sem]
      | 1, _ => simp [go_sem]⟩
  go_enter Try.func33, Try.ntmps33
  go_wp2_with fail
  have hc := implHullOf_any n a (some ⟨w.heap.size + 1, 0, none⟩) cap 2 zs [x, y] _ (hi.below hB) il hn (by simp)
  refine hc.mono ?_
  rintro e w1 ⟨v, rfl, ov, hb⟩
  go_wp2
  go_ret
  exact ⟨v, rfl, by rw [← btw_eq]; exact ov.le hB.size, bnext hB hb⟩

set_option maxHeartbeats 2000000 in
set_option maxRecDepth 100000 in
theorem specBetweenOf_any (n x y : Int) (a : Option Addr) (cap : Nat) (zs : List Int) (w : World) (hi : Ints w a zs) (hn : zs.length ≤ 1048576) :
    Calls Try.prog 34 #[.agg #[.int .i64 n, .slice a zs.length cap], .int .i64 x, .int .i64 y] w (Gives (btwL n zs x y) w) := by
  obtain ⟨i0, hi0, hz0, hz1, hz2⟩ := info_parts info_int
  have S0 := SV.new w n a zs cap none [] 25 hi (Ints.nil _ _)
  clear hi
  by_cases hv : vsB n zs = false
  · have HN := hide (btwL_no (x := x) (y := y) (fun h : BtwOk n zs x y => by rw [vsB_true h.1] at hv; cases hv))
    go_enter Try.func34, Try.ntmps34
    go_wp2_with fail
    refine (validSpace_any _ _ _ _ _ S0.2.1 hn).mono ?_
    rintro e w1 ⟨rfl, hb⟩
    go_wp2
    go_ret
    exact gives_nil HN.out (S0.below hb).2.2.2
  · have hv : vsB n zs = true := by simpa using hv
    have hV := hide (valid_of hv)
    have HR := hide (valid_range hV.out)
    by_cases hx : x ∈ zs
    · have hX := hasB_true hx
      by_cases hy : y ∈ zs
      · have hY := hasB_true hy
        have HK : Hid (BtwOk n zs x y) := ⟨hV.out, hx, hy⟩
        have rx := hide (HR.out _ hx)
        have ry := hide (HR.out _ hy)
        clear hx hy
        go_enter Try.func34, Try.ntmps34
        go_wp2_with fail
        refine (validSpace_any _ _ _ _ _ S0.2.1 hn).mono ?_
        rintro e w1 ⟨rfl, hb⟩
        have S1 := S0.below hb
        clear S0 hb
        obtain ⟨⟨_, c0, c1⟩, i1, _⟩ := S1.pair
        go_wp2_with fail
        refine (has_any _ _ _ _ _ _ i1 hn).mono ?_
        rintro e w2 ⟨rfl, hb⟩
        have S2 := S1.below hb
        clear S1 hb c0 c1 i1
        obtain ⟨⟨_, c0, c1⟩, i1, _⟩ := S2.pair
        go_wp2_with fail
        refine (has_any _ _ _ _ _ _ i1 hn).mono ?_
        rintro e wo ⟨rfl, hb⟩
        have SR := S2.below hb
        clear S2 hb c0 c1 i1
        have ho0 : Owns (wo.alloc (.cells #[] 3)) wo.heap.size (.slice (some ⟨wo.heap.size, 0, none⟩) 0 0) [] := World.ownsRow_lit wo #[] 0 (Nat.le_refl _) (by simp) rfl
        have BA := bel1 wo (.cells #[] 3)
        go_wp2
        go_loopw [7, 8] (fun v i wr => ∃ k : Nat, k ≤ zs.length ∧ i = .int .i64 k ∧ Owns wr wo.heap.size v ((zs.take k).filter (btwP x y)) ∧ Below wo.heap.size wo wr) (fun _ i _ => zs.length - (intOf i).toNat)
        case atStart => exact ⟨0, Nat.zero_le _, rfl, ho0, BA⟩
        case round =>
          clear ho0 BA
          obtain ⟨k, hk, rfl, hown, BR⟩ := hrel
          obtain ⟨⟨_, c0, c1⟩, iz, _, _⟩ := (SR.below BR).pair
          by_cases hlt : k < zs.length
          · obtain ⟨b, off, rfl, hbl, hc⟩ := iz (by omega)
            have hck := hc k hlt
            rw [getD_lt hlt] at hck
            have hft := hide (filter_take (btwP x y) zs k hlt)
            have hle := filter_le (btwP x y) zs k
            have rz := hide (HR.out _ (mem_of_at hlt))
            have l1 := wt_le (x.toNat ^^^ zs[k].toNat)
            have l2 := wt_le (zs[k].toNat ^^^ y.toNat)
            have hw : IntKind.i64.wrap ((wt (x.toNat ^^^ zs[k].toNat) : Int) + (wt (zs[k].toNat ^^^ y.toNat) : Int)) = (wt (x.toNat ^^^ zs[k].toNat) : Int) + (wt (zs[k].toNat ^^^ y.toNat) : Int) := IntWalk.i64_in _ (by omega)
            have hp : btwP x y zs[k] = (wt (x.toNat ^^^ zs[k].toNat) + wt (zs[k].toNat ^^^ y.toNat) == wt (x.toNat ^^^ y.toNat)) := rfl
            have hsz := BR.size
            clear hc iz
            by_cases he : btwP x y zs[k] = true
            · have HE := hide he
              have hE : ((wt (x.toNat ^^^ zs[k].toNat) : Int) + (wt (zs[k].toNat ^^^ y.toNat) : Int) == (wt (x.toNat ^^^ y.toNat) : Int)) = true := by
                rw [hp, beq_iff_eq] at he; rw [beq_iff_eq]; omega
              clear he hp
              go_wp2
              go_quiet ((go_at_call 85; exact quiet_left (gapI_any _ _ _ (by first | exact rx.out | exact ry.out | exact rz.out) (by first | exact rx.out | exact ry.out | exact rz.out))))
              have ho1 : (wr.drewN nq).ownsRow wo.heap.size 3 1 u7 ((zs.take k).filter (btwP x y)).length (((zs.take k).filter (btwP x y)).map (Value.int .i64)) := hown.below (belN _ _)
              go_wp2_with ((at_builtin; refine wpList_append_own _ rfl _ _ 23 rfl wo.heap.size 3 i0 (.int .i64 0) 1 8 Try.underlying23 hi0 hz0 hz1 hz2 rfl (by decide) _ _ _ rfl (ho1.alloc _) ⟨wr.heap.size, 0, none⟩ 1 1 [.int .i64 zs[k]] rfl rfl ?c1 ?c2 ?c3 ?c4 ?c5 ?_))
              case c1 => exact cell_one_new (wr.drewN nq) _ _
              case c2 => intro u hu; simp at hu; subst hu; rfl
              case c3 => unfold maxLen; omega
              case c4 => omega
              case c5 => simp; omega
              intro v' w2 hown' hgrow _
              have hpush := hide (Owns.push hown')
              have hbel : Below wo.heap.size wo w2 := ((bnext BR (belN wr nq)).alloc hsz _).grown hgrow (by simp; omega) (fun j hj => (ho1.lt j hj).1)
              clear hown' hgrow ho1
              go_wp2
              go_roundw
              case rel => exact ⟨k + 1, by omega, by go_num, by rw [hft.out, if_pos HE.out]; exact hpush.out, hbel⟩
              case measure => simp only [intOf]; omega
            · have he : btwP x y zs[k] = false := by simpa using he
              have HE := hide he
              have hE : ((wt (x.toNat ^^^ zs[k].toNat) : Int) + (wt (zs[k].toNat ^^^ y.toNat) : Int) == (wt (x.toNat ^^^ y.toNat) : Int)) = false := by
                rw [hp, beq_eq_false_iff_ne] at he; rw [beq_eq_false_iff_ne]; omega
              clear he hp
              go_wp2
              go_quiet ((go_at_call 85; exact quiet_left (gapI_any _ _ _ (by first | exact rx.out | exact ry.out | exact rz.out) (by first | exact rx.out | exact ry.out | exact rz.out))))
              go_wp2
              go_roundw
              case rel => exact ⟨k + 1, by omega, by go_num, by rw [hft.out, if_neg (by rw [HE.out]; decide), List.append_nil]; exact hown.below (belN _ _), bnext BR (belN _ _)⟩
              case measure => simp only [intOf]; omega
          · obtain rfl : k = zs.length := by omega
            have hwo := SR.2.2.2
            go_wp2
            go_ret
            exact ⟨_, rfl, by rw [List.take_length] at hown; rw [btwL_yes HK.out]; exact hown.le hwo.size, bnext hwo BR⟩
      · have hY := hasB_false hy
        have HN := hide (btwL_no (fun h : BtwOk n zs x y => hy h.2.2))
        clear hx hy
        go_enter Try.func34, Try.ntmps34
        go_wp2_with fail
        refine (validSpace_any _ _ _ _ _ S0.2.1 hn).mono ?_
        rintro e w1 ⟨rfl, hb⟩
        have S1 := S0.below hb
        clear S0 hb
        obtain ⟨⟨_, c0, c1⟩, i1, _⟩ := S1.pair
        go_wp2_with fail
        refine (has_any _ _ _ _ _ _ i1 hn).mono ?_
        rintro e w2 ⟨rfl, hb⟩
        have S2 := S1.below hb
        clear S1 hb c0 c1 i1
        obtain ⟨⟨_, c0, c1⟩, i1, _⟩ := S2.pair
        go_wp2_with fail
        refine (has_any _ _ _ _ _ _ i1 hn).mono ?_
        rintro e wo ⟨rfl, hb⟩
        go_wp2
        go_ret
        exact gives_nil HN.out (S2.below hb).2.2.2
    · have hX := hasB_false hx
      have HN := hide (btwL_no (fun h : BtwOk n zs x y => hx h.2.1))
      clear hx
      go_enter Try.func34, Try.ntmps34
      go_wp2_with fail
      refine (validSpace_any _ _ _ _ _ S0.2.1 hn).mono ?_
      rintro e w1 ⟨rfl, hb⟩
      have S1 := S0.below hb
      clear S0 hb
      obtain ⟨⟨_, c0, c1⟩, i1, _⟩ := S1.pair
      go_wp2_with fail
      refine (has_any _ _ _ _ _ _ i1 hn).mono ?_
      rintro e w2 ⟨rfl, hb⟩
      go_wp2
      go_ret
      exact gives_nil HN.out (S1.below hb).2.2.2
end Go.Proofs.Ytljbapfemjdneaa
