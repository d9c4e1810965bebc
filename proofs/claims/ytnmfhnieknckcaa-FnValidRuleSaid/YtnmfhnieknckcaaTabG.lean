/- Opposite sets of groups; whether something holds of each issue's set. -/
import Derived.Test.YtnmfhnieknckcaaTabF
import Derived.Test.YtnmfhnieknckcaaVotes
namespace Go.Proofs.Ytnmfhnieknckcaa
open Go.RowKit Go.Joins

set_option maxHeartbeats 1000000 in
theorem opposite1_any (v : Int) (f : Nat → Bool) (k g g' : Nat) (w : World) (hv : 1 ≤ v ∧ v ≤ 3) (hk : k < 8) (ht : Tab w g f) (hc : w.cell? ⟨g', 0, none⟩ = some (.int .i64 v)) :
    Calls Try.prog 131 #[.int .i64 k, .pointer (some ⟨g, 0, none⟩), .pointer (some ⟨g', 0, none⟩)] w fun e w' => e = .returned (.bool (oppF v f k)) ∧ Below w.heap.size w w' := by
  have HV := hide (isVoters hv)
  have p1 := pw_pos v
  have p2 := pw_le3 v hv.2
  obtain ⟨m, hm⟩ : ∃ m, m = (pw v - 1).toNat ^^^ k := ⟨_, rfl⟩
  have hm8 : m < 8 := by rw [hm]; exact Nat.xor_lt_two_pow (n := 3) (by omega) hk
  have hx : bits .xor .i64 (pw v - 1) (k : Int) = (m : Int) := by
    rw [hm, ← xor_gen _ _ (by omega) (by omega)]
    congr 1
    omega
  have hcm := ht.at m hm8
  have HN : Hid (oppF v f k = !f m) := by unfold Hid oppF; rw [hm]
  clear hm ht hv hk
  go_enter Try.func131, Try.ntmps131
  go_wp2_with (go_at_call 110; refine (everybody_any _ _ HV.out).mono ?_; rintro e w' ⟨rfl, rfl⟩)
  go_ret
  exact ⟨ret_bool HN.out.symm, Below.refl _ _⟩
set_option maxHeartbeats 1000000 in
theorem opposite_any (v : Int) (f : Nat → Bool) (w : World) (hv : 1 ≤ v ∧ v ≤ 3) :
    Calls Try.prog 111 #[.int .i64 v, .agg #[Value.bool (f 0), Value.bool (f 1), Value.bool (f 2), Value.bool (f 3), Value.bool (f 4), Value.bool (f 5), Value.bool (f 6), Value.bool (f 7)]] w fun e w' => e = .returned (.agg #[Value.bool (upT v (oppF v f) 0), Value.bool (upT v (oppF v f) 1), Value.bool (upT v (oppF v f) 2), Value.bool (upT v (oppF v f) 3), Value.bool (upT v (oppF v f) 4), Value.bool (upT v (oppF v f) 5), Value.bool (upT v (oppF v f) 6), Value.bool (upT v (oppF v f) 7)]) ∧ Below w.heap.size w w' := by
  have HV := hide hv
  have p2 := pw_le3 v hv.2
  have T0 := Tab.new (w.alloc (.cells #[.int .i64 v] 3)) f 69
  have HT := hide T0
  have hcx : ∀ w', Below (w.heap.size + 1) (w.alloc (.cells #[.int .i64 v] 3)) w' → w'.cell? ⟨w.heap.size, 0, none⟩ = some (.int .i64 v) := fun w' h => (h.cell (p := ⟨w.heap.size, 0, none⟩) (by simp)).trans (by simp [go_sem])
  have HC := hide hcx
  clear hv T0 hcx
  go_enter Try.func111, Try.ntmps111
  go_wp2_with fail
  have hB3 := bel3 w (.cells #[.int .i64 v] 3) (.cells #[Value.bool (f 0), Value.bool (f 1), Value.bool (f 2), Value.bool (f 3), Value.bool (f 4), Value.bool (f 5), Value.bool (f 6), Value.bool (f 7)] 69) (.cells #[.bool false, .bool false, .bool false, .bool false, .bool false, .bool false, .bool false, .bool false] 69)
  have hB2 := bel2 (w.alloc (.cells #[.int .i64 v] 3)) (.cells #[Value.bool (f 0), Value.bool (f 1), Value.bool (f 2), Value.bool (f 3), Value.bool (f 4), Value.bool (f 5), Value.bool (f 6), Value.bool (f 7)] 69) (.cells #[.bool false, .bool false, .bool false, .bool false, .bool false, .bool false, .bool false, .bool false] 69)
  have hT2 := HT.out.below (bel1 _ (.cells #[.bool false, .bool false, .bool false, .bool false, .bool false, .bool false, .bool false, .bool false] 69))
  have hs := new_blk ((w.alloc (.cells #[.int .i64 v] 3)).alloc (.cells #[Value.bool (f 0), Value.bool (f 1), Value.bool (f 2), Value.bool (f 3), Value.bool (f 4), Value.bool (f 5), Value.bool (f 6), Value.bool (f 7)] 69)) #[.bool false, .bool false, .bool false, .bool false, .bool false, .bool false, .bool false, .bool false] 69
  simp only [World.size_alloc] at hs hB2 hT2
  have HB3 := hide hB3
  have HB2 := hide hB2
  have HT2 := hide hT2
  have HS := hide hs
  clear hB3 hB2 hT2 hs HT
  refine (tableOfO_any (oppF v f) v (w.heap.size + 1) w.heap.size _ HV.out (fun k w' hk hb' => opposite1_any v f k _ _ _ HV.out (by omega) (HT2.out.below hb') (HC.out _ (HB2.out.trans (hb'.mono (by simp)))))).mono ?_
  rintro e w1 ⟨rfl, hb⟩
  have hr := blk_below HS.out hb
  have r0 := cell_of_block hr 0
  have r1 := cell_of_block hr 1
  have r2 := cell_of_block hr 2
  have r3 := cell_of_block hr 3
  have r4 := cell_of_block hr 4
  have r5 := cell_of_block hr 5
  have r6 := cell_of_block hr 6
  have r7 := cell_of_block hr 7
  have fz := free_blk hr
  have HR := hide hr
  clear hr
  simp at r0 r1 r2 r3 r4 r5 r6 r7
  go_wp2
  exact bodyPost_ret (v := .agg #[Value.bool (upT v (oppF v f) 0), Value.bool (upT v (oppF v f) 1), Value.bool (upT v (oppF v f) 2), Value.bool (upT v (oppF v f) 3), Value.bool (upT v (oppF v f) 4), Value.bool (upT v (oppF v f) 5), Value.bool (upT v (oppF v f) 6), Value.bool (upT v (oppF v f) 7)]) (ret_set (p := 4) rfl _ _ (w.heap.size + 1 + 1) _ _ _ _ _ _ _ _ _ rfl (set8_blk HR.out _ _ _ _ _ _ _ _)) rfl ⟨rfl, set8_below (bnext HB3.out hb) (by omega) _ _ _ _ _ _ _ _⟩
set_option maxHeartbeats 1000000 in
theorem isOwnOpposite_any (v : Int) (f : Nat → Bool) (w : World) (hv : 1 ≤ v ∧ v ≤ 3) :
    Calls Try.prog 72 #[.int .i64 v, .agg #[Value.bool (f 0), Value.bool (f 1), Value.bool (f 2), Value.bool (f 3), Value.bool (f 4), Value.bool (f 5), Value.bool (f 6), Value.bool (f 7)]] w fun e w' => e = .returned (.bool (eqT f (upT v (oppF v f)))) ∧ Below w.heap.size w w' := by
  have T0 := Tab.new w f 69
  have HT := hide T0
  have hg := guardTab
  have he := eqlTab
  have HV := hide hv
  have ⟨_, c0, c1, c2, c3, c4, c5, c6, c7⟩ := T0
  clear hv T0
  go_enter Try.func72, Try.ntmps72
  go_wp2_with fail
  go_region_held3 (fun w' => w'.cell? ⟨w.heap.size, 0, none⟩ = some (.bool (f 0)) ∧ w'.cell? ⟨w.heap.size, 1, none⟩ = some (.bool (f 1)) ∧ w'.cell? ⟨w.heap.size, 2, none⟩ = some (.bool (f 2)) ∧ w'.cell? ⟨w.heap.size, 3, none⟩ = some (.bool (f 3)) ∧ w'.cell? ⟨w.heap.size, 4, none⟩ = some (.bool (f 4)) ∧ w'.cell? ⟨w.heap.size, 5, none⟩ = some (.bool (f 5)) ∧ w'.cell? ⟨w.heap.size, 6, none⟩ = some (.bool (f 6)) ∧ w'.cell? ⟨w.heap.size, 7, none⟩ = some (.bool (f 7)))
    (first
      | exact ⟨c0, c1, c2, c3, c4, c5, c6, c7⟩
      | exact ((HT.out.below (bdrew hb3))).2
      | go_keep)
    (first
      | (go_at_call 111; refine (opposite_any v f _ HV.out).mono ?_; rintro e w3 ⟨rfl, hb3⟩)
      | fail)
  go_wp2
  go_ret
  exact ⟨rfl, bnext (bel1 w _) (bdrew hb3)⟩
/-- the group of all is in the set, that of none is not -/
def unanT (v : Int) (f : Nat → Bool) : Bool := f (pw v - 1).toNat && !f 0
set_option maxHeartbeats 1000000 in
theorem hasAllNotNone_any (v : Int) (f : Nat → Bool) (w : World) (hv : 1 ≤ v ∧ v ≤ 3) :
    Calls Try.prog 71 #[.int .i64 v, .agg #[Value.bool (f 0), Value.bool (f 1), Value.bool (f 2), Value.bool (f 3), Value.bool (f 4), Value.bool (f 5), Value.bool (f 6), Value.bool (f 7)]] w fun e w' => e = .returned (.bool (unanT v f)) ∧ Below w.heap.size w w' := by
  have q1 : pw 1 = 2 := rfl
  have q2 : pw 2 = 4 := rfl
  have q3 : pw 3 = 8 := rfl
  have t1 : (pw 1 - 1).toNat = 1 := rfl
  have t2 : (pw 2 - 1).toNat = 3 := rfl
  have t3 : (pw 3 - 1).toNat = 7 := rfl
  have HT := hide (And.intro t1 (And.intro t2 t3))
  clear t1 t2 t3
  rcases isVoters hv with rfl | rfl | rfl
  · go_enter Try.func71, Try.ntmps71
    cases hf : f 1
    all_goals
      go_wp2_with (go_at_call 110; refine (everybody_any _ _ (by decide)).mono ?_; rintro e w' ⟨rfl, rfl⟩)
      go_ret
      exact ⟨ret_bool (by unfold unanT; rw [HT.out.1, hf]; simp), bel1 w _⟩
  · go_enter Try.func71, Try.ntmps71
    cases hf : f 3
    all_goals
      go_wp2_with (go_at_call 110; refine (everybody_any _ _ (by decide)).mono ?_; rintro e w' ⟨rfl, rfl⟩)
      go_ret
      exact ⟨ret_bool (by unfold unanT; rw [HT.out.2.1, hf]; simp), bel1 w _⟩
  · go_enter Try.func71, Try.ntmps71
    cases hf : f 7
    all_goals
      go_wp2_with (go_at_call 110; refine (everybody_any _ _ (by decide)).mono ?_; rintro e w' ⟨rfl, rfl⟩)
      go_ret
      exact ⟨ret_bool (by unfold unanT; rw [HT.out.2.2, hf]; simp), bel1 w _⟩
set_option maxHeartbeats 1000000 in
theorem dictator1_any (v : Int) (f h : Nat → Bool) (g : Nat) (w : World) (ht : Tab w g h) :
    Calls Try.prog 69 #[.int .i64 v, .agg #[Value.bool (f 0), Value.bool (f 1), Value.bool (f 2), Value.bool (f 3), Value.bool (f 4), Value.bool (f 5), Value.bool (f 6), Value.bool (f 7)], .pointer (some ⟨g, 0, none⟩)] w fun e w' => e = .returned (.bool (eqT f h)) ∧ Below w.heap.size w w' := by
  have hg := guardTab
  have he := eqlTab
  have ⟨_, c0, c1, c2, c3, c4, c5, c6, c7⟩ := ht
  clear ht
  go_enter Try.func69, Try.ntmps69
  go_wp2
  go_ret
  exact ⟨rfl, bel1 w _⟩
set_option maxHeartbeats 1000000 in
theorem indexFuncE_any (p : Int → Bool) (a : Option Addr) (cap g g' : Nat) (zs : List Int) (w : World) (hi : Ints w a zs) (hn : zs.length ≤ 1048576)
    (hf : ∀ (x : Int) (w' : World), x ∈ zs → Below w.heap.size w w' → Calls Try.prog 106 #[.int .i64 x, .pointer (some ⟨g, 0, none⟩), .pointer (some ⟨g', 0, none⟩)] w' fun e w'' => e = .returned (.bool (p x)) ∧ Below w'.heap.size w' w'') :
    Calls Try.prog 105 #[.slice a zs.length cap, .func (.func 106) #[] #[.pointer (some ⟨g, 0, none⟩), .pointer (some ⟨g', 0, none⟩)]] w (IdxGPost p zs w) := by
  have HF := hide hf
  clear hf
  go_enter Try.func105, Try.ntmps105
  go_wp2_with fail
  go_loopw [8] (fun i wr => ∃ k : Nat, k ≤ zs.length ∧ i = .int .i64 k ∧ (∀ j, j < k → p (zs.getD j 0) = false) ∧ Below w.heap.size w wr) (fun i _ => zs.length - (intOf i).toNat)
  case atStart => exact ⟨0, Nat.zero_le _, rfl, fun j hj => by omega, Below.refl _ _⟩
  case round =>
    obtain ⟨k, hk, rfl, hall, hb⟩ := hrel
    have HA := hide hall
    clear hall
    by_cases hlt : k < zs.length
    · obtain ⟨bb, off, rfl, hbl, hc⟩ := (hi.below hb) (by omega)
      have hck := hc k hlt
      rw [getD_lt hlt] at hck
      clear hc hi
      by_cases he : p zs[k] = true
      · have HF2 := hide (any_true hlt he)
        have HE := hide he
        clear he
        go_wp2_with fail
        refine (HF.out _ _ (mem_of_at hlt) hb).mono ?_
        rintro e w1 ⟨rfl, h1⟩
        have he := HE.out
        go_wp2
        go_ret
        exact ⟨k, .inl ⟨HF2.out, by omega⟩, by omega, rfl, bnext hb h1⟩
      · have he : p zs[k] = false := by simpa using he
        have HE := hide he
        clear he
        go_wp2_with fail
        refine (HF.out _ _ (mem_of_at hlt) hb).mono ?_
        rintro e w1 ⟨rfl, h1⟩
        have he := HE.out
        go_wp2
        go_roundw
        case rel => exact ⟨k + 1, by omega, by go_num, fun j hj => by
          rcases Nat.lt_or_ge j k with h | h
          · exact HA.out j h
          · obtain rfl : j = k := by omega
            rw [getD_lt hlt]
            exact HE.out, bnext hb h1⟩
        case measure => simp only [intOf]; omega
    · obtain rfl : k = zs.length := by omega
      go_wp2
      go_ret
      exact ⟨-1, .inr ⟨any_false HA.out, rfl⟩, by omega, rfl, hb⟩

set_option maxHeartbeats 1000000 in
theorem containsFuncE_any (p : Int → Bool) (a : Option Addr) (cap g g' : Nat) (zs : List Int) (w : World) (hi : Ints w a zs) (hn : zs.length ≤ 1048576)
    (hf : ∀ (x : Int) (w' : World), x ∈ zs → Below w.heap.size w w' → Calls Try.prog 106 #[.int .i64 x, .pointer (some ⟨g, 0, none⟩), .pointer (some ⟨g', 0, none⟩)] w' fun e w'' => e = .returned (.bool (p x)) ∧ Below w'.heap.size w' w'') :
    Calls Try.prog 54 #[.slice a zs.length cap, .func (.func 106) #[] #[.pointer (some ⟨g, 0, none⟩), .pointer (some ⟨g', 0, none⟩)]] w fun e w' => e = .returned (.bool (zs.any p)) ∧ Below w.heap.size w w' := by
  have HF := hide hf
  clear hf
  by_cases hm : zs.any p = true
  · have HM := hide hm
    clear hm
    go_enter Try.func54, Try.ntmps54
    go_wp2_with fail
    refine (indexFuncE_any p _ _ _ _ _ _ hi hn HF.out).mono ?_
    rintro e w' ⟨r, hr, hr2, rfl, hb⟩
    have h0 : 0 ≤ r := by
      rcases hr with ⟨_, h⟩ | ⟨h, _⟩
      · exact h
      · rw [HM.out] at h; cases h
    clear hr
    go_wp2
    go_ret
    exact ⟨ret_bool HM.out.symm, hb⟩
  · have hm : zs.any p = false := by simpa using hm
    have HM := hide hm
    clear hm
    go_enter Try.func54, Try.ntmps54
    go_wp2_with fail
    refine (indexFuncE_any p _ _ _ _ _ _ hi hn HF.out).mono ?_
    rintro e w' ⟨r, hr, hr2, rfl, hb⟩
    have h0 : r < 0 := by
      rcases hr with ⟨h, _⟩ | ⟨_, h⟩
      · rw [HM.out] at h; cases h
      · omega
    clear hr
    go_wp2
    go_ret
    exact ⟨ret_bool (by rw [HM.out]; simp; omega), hb⟩

/-- what each set is asked -/
def holdMono (v : Int) (x : Int) : Bool := (eqT (upT v (winF x)) (upT v (grownF (upT v (winF x)))))
set_option maxHeartbeats 2000000 in
theorem holdsForEach1Mono_any (v x : Int) (b : Option Addr) (len capb g g' : Nat) (w : World) (hv : 1 ≤ v ∧ v ≤ 3) (hx : 0 ≤ x ∧ x ≤ 255) (hl : g < w.heap.size) (hg : w.cell? ⟨g, 0, none⟩ = some (.func (.func 58) #[] #[])) (bx : Box w g' v b len capb) :
    Calls Try.prog 106 #[.int .i64 x, .pointer (some ⟨g, 0, none⟩), .pointer (some ⟨g', 0, none⟩)] w fun e w' => e = .returned (.bool (!holdMono v x)) ∧ Below w.heap.size w w' := by
  have HV := hide hv
  have HX := hide hx
  skip
  obtain ⟨hl', c0, c1⟩ := bx
  clear hv hx
  go_enter Try.func106, Try.ntmps106
  go_wp2_with fail
  go_region_held3 (fun w' => w'.cell? ⟨g, 0, none⟩ = some (.func (.func 58) #[] #[]) ∧ w'.cell? ⟨g', 0, none⟩ = some (.int .i64 v))
    (first
      | exact ⟨hg, c0⟩
      | exact ⟨((bdrew hb3).cell (p := ⟨g, 0, none⟩) hl).trans hg, ((bdrew hb3).cell (p := ⟨g', 0, none⟩) hl').trans c0⟩
      | exact ⟨((bnext (bdrew hb3) hb4).cell (p := ⟨g, 0, none⟩) hl).trans hg, ((bnext (bdrew hb3) hb4).cell (p := ⟨g', 0, none⟩) hl').trans c0⟩
      | go_keep)
    (first
      | (go_at_call 107; refine (winnersOf_any v x _ HV.out HX.out).mono ?_; rintro e w3 ⟨rfl, hb3⟩)
      | (go_at_call 58; refine (isGrown_any v _ _ HV.out).mono ?_; rintro e w4 ⟨rfl, hb4⟩)
      | fail)
  go_wp2
  go_ret
  exact ⟨rfl, bnext (bdrew hb3) hb4⟩
set_option maxHeartbeats 2000000 in
theorem holdsForEachMono_any (v : Int) (b : Option Addr) (ws : List Int) (capb : Nat) (w : World) (hv : 1 ≤ v ∧ v ≤ 3) (hx : ∀ x ∈ ws, 0 ≤ x ∧ x ≤ 255) (hj : Ints w b ws) (hm : ws.length ≤ 1048576) :
    Calls Try.prog 57 #[.agg #[.int .i64 v, .slice b ws.length capb], .func (.func 58) #[] #[]] w fun e w' => e = .returned (.bool (!ws.any fun x => !holdMono v x)) ∧ Below w.heap.size w w' := by
  have HV := hide hv
  have HX := hide hx
  have B2 := bel2 w (.cells #[.int .i64 v, .slice b ws.length capb] 27) (.cells #[.func (.func 58) #[] #[]] 64)
  have bx := (Box.new w v b ws.length capb 27).below (bel1 _ (.cells #[.func (.func 58) #[] #[]] 64))
  have ij := hj.below B2
  have HBX := hide bx
  have HIJ := hide ij
  have HB2 := hide B2
  have hfc : ∀ w', Below (w.heap.size + 1 + 1) ((w.alloc (.cells #[.int .i64 v, .slice b ws.length capb] 27)).alloc (.cells #[.func (.func 58) #[] #[]] 64)) w' → w'.cell? ⟨w.heap.size + 1, 0, none⟩ = some (.func (.func 58) #[] #[]) ∧ w.heap.size + 1 < w'.heap.size := fun w' h => ⟨(h.cell (p := ⟨w.heap.size + 1, 0, none⟩) (by simp)).trans (by simp [go_sem]), by have := h.size; simp at this; omega⟩
  have HFC := hide hfc
  skip
  obtain ⟨_, c0, c1⟩ := bx
  clear hv hx hj ij B2 hfc
  go_enter Try.func57, Try.ntmps57
  go_wp2_with fail
  refine (containsFuncE_any (fun x => !holdMono v x) _ _ _ _ _ _ HIJ.out hm (fun x w' hxm hb' => holdsForEach1Mono_any v x b ws.length capb _ _ _ HV.out (HX.out x hxm) (HFC.out w' (by simpa only [World.size_alloc] using hb')).2 (HFC.out w' (by simpa only [World.size_alloc] using hb')).1 (HBX.out.below hb'))).mono ?_
  rintro e w1 ⟨rfl, hb⟩
  go_wp2
  go_ret
  exact ⟨rfl, bnext HB2.out hb⟩
/-- what each set is asked -/
def holdUnan (v : Int) (x : Int) : Bool := (unanT v (upT v (winF x)))
set_option maxHeartbeats 2000000 in
theorem holdsForEach1Unan_any (v x : Int) (b : Option Addr) (len capb g g' : Nat) (w : World) (hv : 1 ≤ v ∧ v ≤ 3) (hx : 0 ≤ x ∧ x ≤ 255) (hl : g < w.heap.size) (hg : w.cell? ⟨g, 0, none⟩ = some (.func (.func 71) #[] #[])) (bx : Box w g' v b len capb) :
    Calls Try.prog 106 #[.int .i64 x, .pointer (some ⟨g, 0, none⟩), .pointer (some ⟨g', 0, none⟩)] w fun e w' => e = .returned (.bool (!holdUnan v x)) ∧ Below w.heap.size w w' := by
  have HV := hide hv
  have HX := hide hx
  skip
  obtain ⟨hl', c0, c1⟩ := bx
  clear hv hx
  go_enter Try.func106, Try.ntmps106
  go_wp2_with fail
  go_region_held3 (fun w' => w'.cell? ⟨g, 0, none⟩ = some (.func (.func 71) #[] #[]) ∧ w'.cell? ⟨g', 0, none⟩ = some (.int .i64 v))
    (first
      | exact ⟨hg, c0⟩
      | exact ⟨((bdrew hb3).cell (p := ⟨g, 0, none⟩) hl).trans hg, ((bdrew hb3).cell (p := ⟨g', 0, none⟩) hl').trans c0⟩
      | exact ⟨((bnext (bdrew hb3) hb4).cell (p := ⟨g, 0, none⟩) hl).trans hg, ((bnext (bdrew hb3) hb4).cell (p := ⟨g', 0, none⟩) hl').trans c0⟩
      | go_keep)
    (first
      | (go_at_call 107; refine (winnersOf_any v x _ HV.out HX.out).mono ?_; rintro e w3 ⟨rfl, hb3⟩)
      | (go_at_call 71; refine (hasAllNotNone_any v _ _ HV.out).mono ?_; rintro e w4 ⟨rfl, hb4⟩)
      | fail)
  go_wp2
  go_ret
  exact ⟨rfl, bnext (bdrew hb3) hb4⟩
set_option maxHeartbeats 2000000 in
theorem holdsForEachUnan_any (v : Int) (b : Option Addr) (ws : List Int) (capb : Nat) (w : World) (hv : 1 ≤ v ∧ v ≤ 3) (hx : ∀ x ∈ ws, 0 ≤ x ∧ x ≤ 255) (hj : Ints w b ws) (hm : ws.length ≤ 1048576) :
    Calls Try.prog 57 #[.agg #[.int .i64 v, .slice b ws.length capb], .func (.func 71) #[] #[]] w fun e w' => e = .returned (.bool (!ws.any fun x => !holdUnan v x)) ∧ Below w.heap.size w w' := by
  have HV := hide hv
  have HX := hide hx
  have B2 := bel2 w (.cells #[.int .i64 v, .slice b ws.length capb] 27) (.cells #[.func (.func 71) #[] #[]] 64)
  have bx := (Box.new w v b ws.length capb 27).below (bel1 _ (.cells #[.func (.func 71) #[] #[]] 64))
  have ij := hj.below B2
  have HBX := hide bx
  have HIJ := hide ij
  have HB2 := hide B2
  have hfc : ∀ w', Below (w.heap.size + 1 + 1) ((w.alloc (.cells #[.int .i64 v, .slice b ws.length capb] 27)).alloc (.cells #[.func (.func 71) #[] #[]] 64)) w' → w'.cell? ⟨w.heap.size + 1, 0, none⟩ = some (.func (.func 71) #[] #[]) ∧ w.heap.size + 1 < w'.heap.size := fun w' h => ⟨(h.cell (p := ⟨w.heap.size + 1, 0, none⟩) (by simp)).trans (by simp [go_sem]), by have := h.size; simp at this; omega⟩
  have HFC := hide hfc
  skip
  obtain ⟨_, c0, c1⟩ := bx
  clear hv hx hj ij B2 hfc
  go_enter Try.func57, Try.ntmps57
  go_wp2_with fail
  refine (containsFuncE_any (fun x => !holdUnan v x) _ _ _ _ _ _ HIJ.out hm (fun x w' hxm hb' => holdsForEach1Unan_any v x b ws.length capb _ _ _ HV.out (HX.out x hxm) (HFC.out w' (by simpa only [World.size_alloc] using hb')).2 (HFC.out w' (by simpa only [World.size_alloc] using hb')).1 (HBX.out.below hb'))).mono ?_
  rintro e w1 ⟨rfl, hb⟩
  go_wp2
  go_ret
  exact ⟨rfl, bnext HB2.out hb⟩
/-- what each set is asked -/
def holdOwn (v : Int) (x : Int) : Bool := (eqT (upT v (winF x)) (upT v (oppF v (upT v (winF x)))))
set_option maxHeartbeats 2000000 in
theorem holdsForEach1Own_any (v x : Int) (b : Option Addr) (len capb g g' : Nat) (w : World) (hv : 1 ≤ v ∧ v ≤ 3) (hx : 0 ≤ x ∧ x ≤ 255) (hl : g < w.heap.size) (hg : w.cell? ⟨g, 0, none⟩ = some (.func (.func 72) #[] #[])) (bx : Box w g' v b len capb) :
    Calls Try.prog 106 #[.int .i64 x, .pointer (some ⟨g, 0, none⟩), .pointer (some ⟨g', 0, none⟩)] w fun e w' => e = .returned (.bool (!holdOwn v x)) ∧ Below w.heap.size w w' := by
  have HV := hide hv
  have HX := hide hx
  skip
  obtain ⟨hl', c0, c1⟩ := bx
  clear hv hx
  go_enter Try.func106, Try.ntmps106
  go_wp2_with fail
  go_region_held3 (fun w' => w'.cell? ⟨g, 0, none⟩ = some (.func (.func 72) #[] #[]) ∧ w'.cell? ⟨g', 0, none⟩ = some (.int .i64 v))
    (first
      | exact ⟨hg, c0⟩
      | exact ⟨((bdrew hb3).cell (p := ⟨g, 0, none⟩) hl).trans hg, ((bdrew hb3).cell (p := ⟨g', 0, none⟩) hl').trans c0⟩
      | exact ⟨((bnext (bdrew hb3) hb4).cell (p := ⟨g, 0, none⟩) hl).trans hg, ((bnext (bdrew hb3) hb4).cell (p := ⟨g', 0, none⟩) hl').trans c0⟩
      | go_keep)
    (first
      | (go_at_call 107; refine (winnersOf_any v x _ HV.out HX.out).mono ?_; rintro e w3 ⟨rfl, hb3⟩)
      | (go_at_call 72; refine (isOwnOpposite_any v _ _ HV.out).mono ?_; rintro e w4 ⟨rfl, hb4⟩)
      | fail)
  go_wp2
  go_ret
  exact ⟨rfl, bnext (bdrew hb3) hb4⟩
set_option maxHeartbeats 2000000 in
theorem holdsForEachOwn_any (v : Int) (b : Option Addr) (ws : List Int) (capb : Nat) (w : World) (hv : 1 ≤ v ∧ v ≤ 3) (hx : ∀ x ∈ ws, 0 ≤ x ∧ x ≤ 255) (hj : Ints w b ws) (hm : ws.length ≤ 1048576) :
    Calls Try.prog 57 #[.agg #[.int .i64 v, .slice b ws.length capb], .func (.func 72) #[] #[]] w fun e w' => e = .returned (.bool (!ws.any fun x => !holdOwn v x)) ∧ Below w.heap.size w w' := by
  have HV := hide hv
  have HX := hide hx
  have B2 := bel2 w (.cells #[.int .i64 v, .slice b ws.length capb] 27) (.cells #[.func (.func 72) #[] #[]] 64)
  have bx := (Box.new w v b ws.length capb 27).below (bel1 _ (.cells #[.func (.func 72) #[] #[]] 64))
  have ij := hj.below B2
  have HBX := hide bx
  have HIJ := hide ij
  have HB2 := hide B2
  have hfc : ∀ w', Below (w.heap.size + 1 + 1) ((w.alloc (.cells #[.int .i64 v, .slice b ws.length capb] 27)).alloc (.cells #[.func (.func 72) #[] #[]] 64)) w' → w'.cell? ⟨w.heap.size + 1, 0, none⟩ = some (.func (.func 72) #[] #[]) ∧ w.heap.size + 1 < w'.heap.size := fun w' h => ⟨(h.cell (p := ⟨w.heap.size + 1, 0, none⟩) (by simp)).trans (by simp [go_sem]), by have := h.size; simp at this; omega⟩
  have HFC := hide hfc
  skip
  obtain ⟨_, c0, c1⟩ := bx
  clear hv hx hj ij B2 hfc
  go_enter Try.func57, Try.ntmps57
  go_wp2_with fail
  refine (containsFuncE_any (fun x => !holdOwn v x) _ _ _ _ _ _ HIJ.out hm (fun x w' hxm hb' => holdsForEach1Own_any v x b ws.length capb _ _ _ HV.out (HX.out x hxm) (HFC.out w' (by simpa only [World.size_alloc] using hb')).2 (HFC.out w' (by simpa only [World.size_alloc] using hb')).1 (HBX.out.below hb'))).mono ?_
  rintro e w1 ⟨rfl, hb⟩
  go_wp2
  go_ret
  exact ⟨rfl, bnext HB2.out hb⟩
/-- what each set is asked -/
def holdDict (v : Int) (h : Nat → Bool) (x : Int) : Bool := (eqT (upT v (winF x)) h)
set_option maxHeartbeats 2000000 in
theorem holdsForEach1Dict_any (v x : Int) (b : Option Addr) (len capb g g' : Nat) (q : Nat) (h : Nat → Bool) (w : World) (hv : 1 ≤ v ∧ v ≤ 3) (hx : 0 ≤ x ∧ x ≤ 255) (ht : Tab w q h) (hl : g < w.heap.size) (hg : w.cell? ⟨g, 0, none⟩ = some (.func (.func 69) #[] #[.pointer (some ⟨q, 0, none⟩)])) (bx : Box w g' v b len capb) :
    Calls Try.prog 106 #[.int .i64 x, .pointer (some ⟨g, 0, none⟩), .pointer (some ⟨g', 0, none⟩)] w fun e w' => e = .returned (.bool (!holdDict v h x)) ∧ Below w.heap.size w w' := by
  have HV := hide hv
  have HX := hide hx
  have HT := hide ht
  clear ht
  obtain ⟨hl', c0, c1⟩ := bx
  clear hv hx
  go_enter Try.func106, Try.ntmps106
  go_wp2_with fail
  go_region_held3 (fun w' => w'.cell? ⟨g, 0, none⟩ = some (.func (.func 69) #[] #[.pointer (some ⟨q, 0, none⟩)]) ∧ w'.cell? ⟨g', 0, none⟩ = some (.int .i64 v))
    (first
      | exact ⟨hg, c0⟩
      | exact ⟨((bdrew hb3).cell (p := ⟨g, 0, none⟩) hl).trans hg, ((bdrew hb3).cell (p := ⟨g', 0, none⟩) hl').trans c0⟩
      | exact ⟨((bnext (bdrew hb3) hb4).cell (p := ⟨g, 0, none⟩) hl).trans hg, ((bnext (bdrew hb3) hb4).cell (p := ⟨g', 0, none⟩) hl').trans c0⟩
      | go_keep)
    (first
      | (go_at_call 107; refine (winnersOf_any v x _ HV.out HX.out).mono ?_; rintro e w3 ⟨rfl, hb3⟩)
      | (go_at_call 69; refine (dictator1_any v _ _ _ _ (HT.out.below (bdrew hb3))).mono ?_; rintro e w4 ⟨rfl, hb4⟩)
      | fail)
  go_wp2
  go_ret
  exact ⟨rfl, bnext (bdrew hb3) hb4⟩
set_option maxHeartbeats 2000000 in
theorem holdsForEachDict_any (v : Int) (b : Option Addr) (ws : List Int) (capb : Nat) (q : Nat) (h : Nat → Bool) (w : World) (hv : 1 ≤ v ∧ v ≤ 3) (hx : ∀ x ∈ ws, 0 ≤ x ∧ x ≤ 255) (hj : Ints w b ws) (hm : ws.length ≤ 1048576) (ht : Tab w q h) :
    Calls Try.prog 57 #[.agg #[.int .i64 v, .slice b ws.length capb], .func (.func 69) #[] #[.pointer (some ⟨q, 0, none⟩)]] w fun e w' => e = .returned (.bool (!ws.any fun x => !holdDict v h x)) ∧ Below w.heap.size w w' := by
  have HV := hide hv
  have HX := hide hx
  have B2 := bel2 w (.cells #[.int .i64 v, .slice b ws.length capb] 27) (.cells #[.func (.func 69) #[] #[.pointer (some ⟨q, 0, none⟩)]] 64)
  have bx := (Box.new w v b ws.length capb 27).below (bel1 _ (.cells #[.func (.func 69) #[] #[.pointer (some ⟨q, 0, none⟩)]] 64))
  have ij := hj.below B2
  have HBX := hide bx
  have HIJ := hide ij
  have HB2 := hide B2
  have hfc : ∀ w', Below (w.heap.size + 1 + 1) ((w.alloc (.cells #[.int .i64 v, .slice b ws.length capb] 27)).alloc (.cells #[.func (.func 69) #[] #[.pointer (some ⟨q, 0, none⟩)]] 64)) w' → w'.cell? ⟨w.heap.size + 1, 0, none⟩ = some (.func (.func 69) #[] #[.pointer (some ⟨q, 0, none⟩)]) ∧ w.heap.size + 1 < w'.heap.size := fun w' h => ⟨(h.cell (p := ⟨w.heap.size + 1, 0, none⟩) (by simp)).trans (by simp [go_sem]), by have := h.size; simp at this; omega⟩
  have HFC := hide hfc
  have HT2 := hide (ht.below B2)
  clear ht
  obtain ⟨_, c0, c1⟩ := bx
  clear hv hx hj ij B2 hfc
  go_enter Try.func57, Try.ntmps57
  go_wp2_with fail
  refine (containsFuncE_any (fun x => !holdDict v h x) _ _ _ _ _ _ HIJ.out hm (fun x w' hxm hb' => holdsForEach1Dict_any v x b ws.length capb _ _ q h _ HV.out (HX.out x hxm) (HT2.out.below hb') (HFC.out w' (by simpa only [World.size_alloc] using hb')).2 (HFC.out w' (by simpa only [World.size_alloc] using hb')).1 (HBX.out.below hb'))).mono ?_
  rintro e w1 ⟨rfl, hb⟩
  go_wp2
  go_ret
  exact ⟨rfl, bnext HB2.out hb⟩
end Go.Proofs.Ytnmfhnieknckcaa
