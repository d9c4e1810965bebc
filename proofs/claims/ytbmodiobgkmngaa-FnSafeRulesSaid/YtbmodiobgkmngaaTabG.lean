/- Opposite sets of groups; whether something holds of each issue's set. -/
import Derived.Test.YtbmodiobgkmngaaTabF
import Derived.Test.YtbmodiobgkmngaaVotes
namespace Go.Proofs.Ytbmodiobgkmngaa
open Go.RowKit Go.Joins

/-- the group of all is in the set, that of none is not -/
def unanT (v : Int) (f : Nat → Bool) : Bool := f (pw v - 1).toNat && !f 0
set_option maxHeartbeats 1000000 in
theorem hasAllNotNone_any (v : Int) (f : Nat → Bool) (w : World) (hv : 1 ≤ v ∧ v ≤ 3) :
    Calls Try.prog 39 #[.int .i64 v, .agg #[Value.bool (f 0), Value.bool (f 1), Value.bool (f 2), Value.bool (f 3), Value.bool (f 4), Value.bool (f 5), Value.bool (f 6), Value.bool (f 7)]] w fun e w' => e = .returned (.bool (unanT v f)) ∧ Below w.heap.size w w' := by
  have q1 : pw 1 = 2 := rfl
  have q2 : pw 2 = 4 := rfl
  have q3 : pw 3 = 8 := rfl
  have t1 : (pw 1 - 1).toNat = 1 := rfl
  have t2 : (pw 2 - 1).toNat = 3 := rfl
  have t3 : (pw 3 - 1).toNat = 7 := rfl
  have HT := hide (And.intro t1 (And.intro t2 t3))
  clear t1 t2 t3
  rcases isVoters hv with rfl | rfl | rfl
  · go_enter Try.func39, Try.ntmps39
    cases hf : f 1
    all_goals
      go_wp2_with (go_at_call 68; refine (everybody_any _ _ (by decide)).mono ?_; rintro e w' ⟨rfl, rfl⟩)
      go_ret
      exact ⟨ret_bool (by unfold unanT; rw [HT.out.1, hf]; simp), bel1 w _⟩
  · go_enter Try.func39, Try.ntmps39
    cases hf : f 3
    all_goals
      go_wp2_with (go_at_call 68; refine (everybody_any _ _ (by decide)).mono ?_; rintro e w' ⟨rfl, rfl⟩)
      go_ret
      exact ⟨ret_bool (by unfold unanT; rw [HT.out.2.1, hf]; simp), bel1 w _⟩
  · go_enter Try.func39, Try.ntmps39
    cases hf : f 7
    all_goals
      go_wp2_with (go_at_call 68; refine (everybody_any _ _ (by decide)).mono ?_; rintro e w' ⟨rfl, rfl⟩)
      go_ret
      exact ⟨ret_bool (by unfold unanT; rw [HT.out.2.2, hf]; simp), bel1 w _⟩
set_option maxHeartbeats 1000000 in
theorem dictator1_any (v : Int) (f h : Nat → Bool) (g : Nat) (w : World) (ht : Tab w g h) :
    Calls Try.prog 41 #[.int .i64 v, .agg #[Value.bool (f 0), Value.bool (f 1), Value.bool (f 2), Value.bool (f 3), Value.bool (f 4), Value.bool (f 5), Value.bool (f 6), Value.bool (f 7)], .pointer (some ⟨g, 0, none⟩)] w fun e w' => e = .returned (.bool (eqT f h)) ∧ Below w.heap.size w w' := by
  have hg := guardTab
  have he := eqlTab
  have ⟨_, c0, c1, c2, c3, c4, c5, c6, c7⟩ := ht
  clear ht
  go_enter Try.func41, Try.ntmps41
  go_wp2
  go_ret
  exact ⟨rfl, bel1 w _⟩
set_option maxHeartbeats 1000000 in
theorem indexFuncE_any (p : Int → Bool) (a : Option Addr) (cap g g' : Nat) (zs : List Int) (w : World) (hi : Ints w a zs) (hn : zs.length ≤ 1048576)
    (hf : ∀ (x : Int) (w' : World), x ∈ zs → Below w.heap.size w w' → Calls Try.prog 66 #[.int .i64 x, .pointer (some ⟨g, 0, none⟩), .pointer (some ⟨g', 0, none⟩)] w' fun e w'' => e = .returned (.bool (p x)) ∧ Below w'.heap.size w' w'') :
    Calls Try.prog 80 #[.slice a zs.length cap, .func (.func 66) #[] #[.pointer (some ⟨g, 0, none⟩), .pointer (some ⟨g', 0, none⟩)]] w (IdxGPost p zs w) := by
  have HF := hide hf
  clear hf
  go_enter Try.func80, Try.ntmps80
  go_wp2_with fail
  go_loopw [8] (fun i wr => ∃ k : Nat, k ≤ zs.length ∧ i = .int .i64 k ∧ (∀ j, j < k → p (zs.getD j 0) = false) ∧ Below w.heap.size w wr) (fun i _ => zs.length - (intOf i).toNat)
  case atStart => exact ⟨0, Nat.zero_le _, rfl, fun j hj => by omega, Below.refl _ _⟩
  case round =>
    obtain ⟨k, hk, rfl, hall, hb⟩ := hrel
    have HA := hide hall
    clear hall
    by_cases hlt : k < zs.length
    · obtain ⟨bb, off, rfl, hbl, hc⟩ := (hi.below hb) (by omega)
      have hck := hc k hlt
      rw [getD_lt hlt] at hck
      clear hc hi
      by_cases he : p zs[k] = true
      · have HF2 := hide (any_true hlt he)
        have HE := hide he
        clear he
        go_wp2_with fail
        refine (HF.out _ _ (mem_of_at hlt) hb).mono ?_
        rintro e w1 ⟨rfl, h1⟩
        have he := HE.out
        go_wp2
        go_ret
        exact ⟨k, .inl ⟨HF2.out, by omega⟩, by omega, rfl, bnext hb h1⟩
      · have he : p zs[k] = false := by simpa using he
        have HE := hide he
        clear he
        go_wp2_with fail
        refine (HF.out _ _ (mem_of_at hlt) hb).mono ?_
        rintro e w1 ⟨rfl, h1⟩
        have he := HE.out
        go_wp2
        go_roundw
        case rel => exact ⟨k + 1, by omega, by go_num, fun j hj => by
          rcases Nat.lt_or_ge j k with h | h
          · exact HA.out j h
          · obtain rfl : j = k := by omega
            rw [getD_lt hlt]
            exact HE.out, bnext hb h1⟩
        case measure => simp only [intOf]; omega
    · obtain rfl : k = zs.length := by omega
      go_wp2
      go_ret
      exact ⟨-1, .inr ⟨any_false HA.out, rfl⟩, by omega, rfl, hb⟩

set_option maxHeartbeats 1000000 in
theorem containsFuncE_any (p : Int → Bool) (a : Option Addr) (cap g g' : Nat) (zs : List Int) (w : World) (hi : Ints w a zs) (hn : zs.length ≤ 1048576)
    (hf : ∀ (x : Int) (w' : World), x ∈ zs → Below w.heap.size w w' → Calls Try.prog 66 #[.int .i64 x, .pointer (some ⟨g, 0, none⟩), .pointer (some ⟨g', 0, none⟩)] w' fun e w'' => e = .returned (.bool (p x)) ∧ Below w'.heap.size w' w'') :
    Calls Try.prog 57 #[.slice a zs.length cap, .func (.func 66) #[] #[.pointer (some ⟨g, 0, none⟩), .pointer (some ⟨g', 0, none⟩)]] w fun e w' => e = .returned (.bool (zs.any p)) ∧ Below w.heap.size w w' := by
  have HF := hide hf
  clear hf
  by_cases hm : zs.any p = true
  · have HM := hide hm
    clear hm
    go_enter Try.func57, Try.ntmps57
    go_wp2_with fail
    refine (indexFuncE_any p _ _ _ _ _ _ hi hn HF.out).mono ?_
    rintro e w' ⟨r, hr, hr2, rfl, hb⟩
    have h0 : 0 ≤ r := by
      rcases hr with ⟨_, h⟩ | ⟨h, _⟩
      · exact h
      · rw [HM.out] at h; cases h
    clear hr
    go_wp2
    go_ret
    exact ⟨ret_bool HM.out.symm, hb⟩
  · have hm : zs.any p = false := by simpa using hm
    have HM := hide hm
    clear hm
    go_enter Try.func57, Try.ntmps57
    go_wp2_with fail
    refine (indexFuncE_any p _ _ _ _ _ _ hi hn HF.out).mono ?_
    rintro e w' ⟨r, hr, hr2, rfl, hb⟩
    have h0 : r < 0 := by
      rcases hr with ⟨h, _⟩ | ⟨_, h⟩
      · rw [HM.out] at h; cases h
      · omega
    clear hr
    go_wp2
    go_ret
    exact ⟨ret_bool (by rw [HM.out]; simp; omega), hb⟩

/-- what each set is asked -/
def holdMono (v : Int) (x : Int) : Bool := (eqT (upT v (winF x)) (upT v (grownF (upT v (winF x)))))
set_option maxHeartbeats 2000000 in
theorem holdsForEach1Mono_any (v x : Int) (b : Option Addr) (len capb g g' : Nat) (w : World) (hv : 1 ≤ v ∧ v ≤ 3) (hx : 0 ≤ x ∧ x ≤ 255) (hl : g < w.heap.size) (hg : w.cell? ⟨g, 0, none⟩ = some (.func (.func 38) #[] #[])) (bx : Box w g' v b len capb) :
    Calls Try.prog 66 #[.int .i64 x, .pointer (some ⟨g, 0, none⟩), .pointer (some ⟨g', 0, none⟩)] w fun e w' => e = .returned (.bool (!holdMono v x)) ∧ Below w.heap.size w w' := by
  have HV := hide hv
  have HX := hide hx
  skip
  obtain ⟨hl', c0, c1⟩ := bx
  clear hv hx
  go_enter Try.func66, Try.ntmps66
  go_wp2_with fail
  go_region_held3 (fun w' => w'.cell? ⟨g, 0, none⟩ = some (.func (.func 38) #[] #[]) ∧ w'.cell? ⟨g', 0, none⟩ = some (.int .i64 v))
    (first
      | exact ⟨hg, c0⟩
      | exact ⟨((bdrew hb3).cell (p := ⟨g, 0, none⟩) hl).trans hg, ((bdrew hb3).cell (p := ⟨g', 0, none⟩) hl').trans c0⟩
      | exact ⟨((bnext (bdrew hb3) hb4).cell (p := ⟨g, 0, none⟩) hl).trans hg, ((bnext (bdrew hb3) hb4).cell (p := ⟨g', 0, none⟩) hl').trans c0⟩
      | go_keep)
    (first
      | (go_at_call 54; refine (winnersOf_any v x _ HV.out HX.out).mono ?_; rintro e w3 ⟨rfl, hb3⟩)
      | (go_at_call 38; refine (isGrown_any v _ _ HV.out).mono ?_; rintro e w4 ⟨rfl, hb4⟩)
      | fail)
  go_wp2
  go_ret
  exact ⟨rfl, bnext (bdrew hb3) hb4⟩
set_option maxHeartbeats 2000000 in
theorem holdsForEachMono_any (v : Int) (b : Option Addr) (ws : List Int) (capb : Nat) (w : World) (hv : 1 ≤ v ∧ v ≤ 3) (hx : ∀ x ∈ ws, 0 ≤ x ∧ x ≤ 255) (hj : Ints w b ws) (hm : ws.length ≤ 1048576) :
    Calls Try.prog 37 #[.agg #[.int .i64 v, .slice b ws.length capb], .func (.func 38) #[] #[]] w fun e w' => e = .returned (.bool (!ws.any fun x => !holdMono v x)) ∧ Below w.heap.size w w' := by
  have HV := hide hv
  have HX := hide hx
  have B2 := bel2 w (.cells #[.int .i64 v, .slice b ws.length capb] 34) (.cells #[.func (.func 38) #[] #[]] 59)
  have bx := (Box.new w v b ws.length capb 34).below (bel1 _ (.cells #[.func (.func 38) #[] #[]] 59))
  have ij := hj.below B2
  have HBX := hide bx
  have HIJ := hide ij
  have HB2 := hide B2
  have hfc : ∀ w', Below (w.heap.size + 1 + 1) ((w.alloc (.cells #[.int .i64 v, .slice b ws.length capb] 34)).alloc (.cells #[.func (.func 38) #[] #[]] 59)) w' → w'.cell? ⟨w.heap.size + 1, 0, none⟩ = some (.func (.func 38) #[] #[]) ∧ w.heap.size + 1 < w'.heap.size := fun w' h => ⟨(h.cell (p := ⟨w.heap.size + 1, 0, none⟩) (by simp)).trans (by simp [go_sem]), by have := h.size; simp at this; omega⟩
  have HFC := hide hfc
  skip
  obtain ⟨_, c0, c1⟩ := bx
  clear hv hx hj ij B2 hfc
  go_enter Try.func37, Try.ntmps37
  go_wp2_with fail
  refine (containsFuncE_any (fun x => !holdMono v x) _ _ _ _ _ _ HIJ.out hm (fun x w' hxm hb' => holdsForEach1Mono_any v x b ws.length capb _ _ _ HV.out (HX.out x hxm) (HFC.out w' (by simpa only [World.size_alloc] using hb')).2 (HFC.out w' (by simpa only [World.size_alloc] using hb')).1 (HBX.out.below hb'))).mono ?_
  rintro e w1 ⟨rfl, hb⟩
  go_wp2
  go_ret
  exact ⟨rfl, bnext HB2.out hb⟩
/-- what each set is asked -/
def holdUnan (v : Int) (x : Int) : Bool := (unanT v (upT v (winF x)))
set_option maxHeartbeats 2000000 in
theorem holdsForEach1Unan_any (v x : Int) (b : Option Addr) (len capb g g' : Nat) (w : World) (hv : 1 ≤ v ∧ v ≤ 3) (hx : 0 ≤ x ∧ x ≤ 255) (hl : g < w.heap.size) (hg : w.cell? ⟨g, 0, none⟩ = some (.func (.func 39) #[] #[])) (bx : Box w g' v b len capb) :
    Calls Try.prog 66 #[.int .i64 x, .pointer (some ⟨g, 0, none⟩), .pointer (some ⟨g', 0, none⟩)] w fun e w' => e = .returned (.bool (!holdUnan v x)) ∧ Below w.heap.size w w' := by
  have HV := hide hv
  have HX := hide hx
  skip
  obtain ⟨hl', c0, c1⟩ := bx
  clear hv hx
  go_enter Try.func66, Try.ntmps66
  go_wp2_with fail
  go_region_held3 (fun w' => w'.cell? ⟨g, 0, none⟩ = some (.func (.func 39) #[] #[]) ∧ w'.cell? ⟨g', 0, none⟩ = some (.int .i64 v))
    (first
      | exact ⟨hg, c0⟩
      | exact ⟨((bdrew hb3).cell (p := ⟨g, 0, none⟩) hl).trans hg, ((bdrew hb3).cell (p := ⟨g', 0, none⟩) hl').trans c0⟩
      | exact ⟨((bnext (bdrew hb3) hb4).cell (p := ⟨g, 0, none⟩) hl).trans hg, ((bnext (bdrew hb3) hb4).cell (p := ⟨g', 0, none⟩) hl').trans c0⟩
      | go_keep)
    (first
      | (go_at_call 54; refine (winnersOf_any v x _ HV.out HX.out).mono ?_; rintro e w3 ⟨rfl, hb3⟩)
      | (go_at_call 39; refine (hasAllNotNone_any v _ _ HV.out).mono ?_; rintro e w4 ⟨rfl, hb4⟩)
      | fail)
  go_wp2
  go_ret
  exact ⟨rfl, bnext (bdrew hb3) hb4⟩
set_option maxHeartbeats 2000000 in
theorem holdsForEachUnan_any (v : Int) (b : Option Addr) (ws : List Int) (capb : Nat) (w : World) (hv : 1 ≤ v ∧ v ≤ 3) (hx : ∀ x ∈ ws, 0 ≤ x ∧ x ≤ 255) (hj : Ints w b ws) (hm : ws.length ≤ 1048576) :
    Calls Try.prog 37 #[.agg #[.int .i64 v, .slice b ws.length capb], .func (.func 39) #[] #[]] w fun e w' => e = .returned (.bool (!ws.any fun x => !holdUnan v x)) ∧ Below w.heap.size w w' := by
  have HV := hide hv
  have HX := hide hx
  have B2 := bel2 w (.cells #[.int .i64 v, .slice b ws.length capb] 34) (.cells #[.func (.func 39) #[] #[]] 59)
  have bx := (Box.new w v b ws.length capb 34).below (bel1 _ (.cells #[.func (.func 39) #[] #[]] 59))
  have ij := hj.below B2
  have HBX := hide bx
  have HIJ := hide ij
  have HB2 := hide B2
  have hfc : ∀ w', Below (w.heap.size + 1 + 1) ((w.alloc (.cells #[.int .i64 v, .slice b ws.length capb] 34)).alloc (.cells #[.func (.func 39) #[] #[]] 59)) w' → w'.cell? ⟨w.heap.size + 1, 0, none⟩ = some (.func (.func 39) #[] #[]) ∧ w.heap.size + 1 < w'.heap.size := fun w' h => ⟨(h.cell (p := ⟨w.heap.size + 1, 0, none⟩) (by simp)).trans (by simp [go_sem]), by have := h.size; simp at this; omega⟩
  have HFC := hide hfc
  skip
  obtain ⟨_, c0, c1⟩ := bx
  clear hv hx hj ij B2 hfc
  go_enter Try.func37, Try.ntmps37
  go_wp2_with fail
  refine (containsFuncE_any (fun x => !holdUnan v x) _ _ _ _ _ _ HIJ.out hm (fun x w' hxm hb' => holdsForEach1Unan_any v x b ws.length capb _ _ _ HV.out (HX.out x hxm) (HFC.out w' (by simpa only [World.size_alloc] using hb')).2 (HFC.out w' (by simpa only [World.size_alloc] using hb')).1 (HBX.out.below hb'))).mono ?_
  rintro e w1 ⟨rfl, hb⟩
  go_wp2
  go_ret
  exact ⟨rfl, bnext HB2.out hb⟩
/-- what each set is asked -/
def holdDict (v : Int) (h : Nat → Bool) (x : Int) : Bool := (eqT (upT v (winF x)) h)
set_option maxHeartbeats 2000000 in
theorem holdsForEach1Dict_any (v x : Int) (b : Option Addr) (len capb g g' : Nat) (q : Nat) (h : Nat → Bool) (w : World) (hv : 1 ≤ v ∧ v ≤ 3) (hx : 0 ≤ x ∧ x ≤ 255) (ht : Tab w q h) (hl : g < w.heap.size) (hg : w.cell? ⟨g, 0, none⟩ = some (.func (.func 41) #[] #[.pointer (some ⟨q, 0, none⟩)])) (bx : Box w g' v b len capb) :
    Calls Try.prog 66 #[.int .i64 x, .pointer (some ⟨g, 0, none⟩), .pointer (some ⟨g', 0, none⟩)] w fun e w' => e = .returned (.bool (!holdDict v h x)) ∧ Below w.heap.size w w' := by
  have HV := hide hv
  have HX := hide hx
  have HT := hide ht
  clear ht
  obtain ⟨hl', c0, c1⟩ := bx
  clear hv hx
  go_enter Try.func66, Try.ntmps66
  go_wp2_with fail
  go_region_held3 (fun w' => w'.cell? ⟨g, 0, none⟩ = some (.func (.func 41) #[] #[.pointer (some ⟨q, 0, none⟩)]) ∧ w'.cell? ⟨g', 0, none⟩ = some (.int .i64 v))
    (first
      | exact ⟨hg, c0⟩
      | exact ⟨((bdrew hb3).cell (p := ⟨g, 0, none⟩) hl).trans hg, ((bdrew hb3).cell (p := ⟨g', 0, none⟩) hl').trans c0⟩
      | exact ⟨((bnext (bdrew hb3) hb4).cell (p := ⟨g, 0, none⟩) hl).trans hg, ((bnext (bdrew hb3) hb4).cell (p := ⟨g', 0, none⟩) hl').trans c0⟩
      | go_keep)
    (first
      | (go_at_call 54; refine (winnersOf_any v x _ HV.out HX.out).mono ?_; rintro e w3 ⟨rfl, hb3⟩)
      | (go_at_call 41; refine (dictator1_any v _ _ _ _ (HT.out.below (bdrew hb3))).mono ?_; rintro e w4 ⟨rfl, hb4⟩)
      | fail)
  go_wp2
  go_ret
  exact ⟨rfl, bnext (bdrew hb3) hb4⟩
set_option maxHeartbeats 2000000 in
theorem holdsForEachDict_any (v : Int) (b : Option Addr) (ws : List Int) (capb : Nat) (q : Nat) (h : Nat → Bool) (w : World) (hv : 1 ≤ v ∧ v ≤ 3) (hx : ∀ x ∈ ws, 0 ≤ x ∧ x ≤ 255) (hj : Ints w b ws) (hm : ws.length ≤ 1048576) (ht : Tab w q h) :
    Calls Try.prog 37 #[.agg #[.int .i64 v, .slice b ws.length capb], .func (.func 41) #[] #[.pointer (some ⟨q, 0, none⟩)]] w fun e w' => e = .returned (.bool (!ws.any fun x => !holdDict v h x)) ∧ Below w.heap.size w w' := by
  have HV := hide hv
  have HX := hide hx
  have B2 := bel2 w (.cells #[.int .i64 v, .slice b ws.length capb] 34) (.cells #[.func (.func 41) #[] #[.pointer (some ⟨q, 0, none⟩)]] 59)
  have bx := (Box.new w v b ws.length capb 34).below (bel1 _ (.cells #[.func (.func 41) #[] #[.pointer (some ⟨q, 0, none⟩)]] 59))
  have ij := hj.below B2
  have HBX := hide bx
  have HIJ := hide ij
  have HB2 := hide B2
  have hfc : ∀ w', Below (w.heap.size + 1 + 1) ((w.alloc (.cells #[.int .i64 v, .slice b ws.length capb] 34)).alloc (.cells #[.func (.func 41) #[] #[.pointer (some ⟨q, 0, none⟩)]] 59)) w' → w'.cell? ⟨w.heap.size + 1, 0, none⟩ = some (.func (.func 41) #[] #[.pointer (some ⟨q, 0, none⟩)]) ∧ w.heap.size + 1 < w'.heap.size := fun w' h => ⟨(h.cell (p := ⟨w.heap.size + 1, 0, none⟩) (by simp)).trans (by simp [go_sem]), by have := h.size; simp at this; omega⟩
  have HFC := hide hfc
  have HT2 := hide (ht.below B2)
  clear ht
  obtain ⟨_, c0, c1⟩ := bx
  clear hv hx hj ij B2 hfc
  go_enter Try.func37, Try.ntmps37
  go_wp2_with fail
  refine (containsFuncE_any (fun x => !holdDict v h x) _ _ _ _ _ _ HIJ.out hm (fun x w' hxm hb' => holdsForEach1Dict_any v x b ws.length capb _ _ q h _ HV.out (HX.out x hxm) (HT2.out.below hb') (HFC.out w' (by simpa only [World.size_alloc] using hb')).2 (HFC.out w' (by simpa only [World.size_alloc] using hb')).1 (HBX.out.below hb'))).mono ?_
  rintro e w1 ⟨rfl, hb⟩
  go_wp2
  go_ret
  exact ⟨rfl, bnext HB2.out hb⟩
end Go.Proofs.Ytbmodiobgkmngaa
