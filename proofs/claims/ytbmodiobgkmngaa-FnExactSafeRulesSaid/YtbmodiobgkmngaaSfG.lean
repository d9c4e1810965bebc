/- The options of safe rules, by the program. -/
import Derived.Test.YtbmodiobgkmngaaSfF
namespace Go.Proofs.Ytbmodiobgkmngaa
open Go.RowKit Go.Joins

theorem winnersOf_was (v : Int) (t : Nat) (f : Nat → Bool) (w : World) (hv : 1 ≤ v ∧ v ≤ 3) (ht : t < 16) (hf : upT v (winF (t : Int)) = f) :
    Calls Try.prog 54 #[.int .i64 v, .int .i64 t] w fun e w' => e = .returned (.agg #[Value.bool (f 0), Value.bool (f 1), Value.bool (f 2), Value.bool (f 3), Value.bool (f 4), Value.bool (f 5), Value.bool (f 6), Value.bool (f 7)]) ∧ Below w.heap.size w w' := by
  subst hf
  exact winnersOf_any v t w hv (by omega)
theorem isGrown_was (v : Int) (t : Nat) (f : Nat → Bool) (r : Bool) (w : World) (hv : 1 ≤ v ∧ v ≤ 3) (ht : t < 16) (hf : upT v (winF (t : Int)) = f) (hr : monoC v t = r) :
    Calls Try.prog 38 #[.int .i64 v, .agg #[Value.bool (f 0), Value.bool (f 1), Value.bool (f 2), Value.bool (f 3), Value.bool (f 4), Value.bool (f 5), Value.bool (f 6), Value.bool (f 7)]] w fun e w' => e = .returned (.bool r) ∧ Below w.heap.size w w' := by
  refine (isGrown_any v f w hv).mono ?_
  rintro e w' ⟨rfl, hb⟩
  have h := mono_eq (v := v) (x := (t : Int)) hv (by omega)
  rw [Int.toNat_natCast, hr] at h
  unfold holdMono at h
  rw [hf] at h
  exact ⟨by rw [h], hb⟩
theorem hasAll_was (v : Int) (t : Nat) (f : Nat → Bool) (r : Bool) (w : World) (hv : 1 ≤ v ∧ v ≤ 3) (ht : t < 16) (hf : upT v (winF (t : Int)) = f) (hr : (!badUnan v t) = r) :
    Calls Try.prog 39 #[.int .i64 v, .agg #[Value.bool (f 0), Value.bool (f 1), Value.bool (f 2), Value.bool (f 3), Value.bool (f 4), Value.bool (f 5), Value.bool (f 6), Value.bool (f 7)]] w fun e w' => e = .returned (.bool r) ∧ Below w.heap.size w w' := by
  refine (hasAllNotNone_any v f w hv).mono ?_
  rintro e w' ⟨rfl, hb⟩
  have h := unan_eq (v := v) (x := (t : Int)) hv (by omega)
  rw [Int.toNat_natCast, hr] at h
  unfold holdUnan at h
  rw [hf] at h
  exact ⟨by rw [h], hb⟩
set_option maxHeartbeats 4000000 in
set_option maxRecDepth 100000 in
theorem fairWins_any (v : Int) (w : World) (hv : v = 1 ∨ v = 2) :
    Calls Try.prog 26 #[.int .i64 v] w fun e w' => ∃ g cap, e = .returned (.slice (some ⟨g, 0, none⟩) (famL v).length cap) ∧ Owns w' w.heap.size (.slice (some ⟨g, 0, none⟩) (famL v).length cap) (famL v) ∧ Below w.heap.size w w' := by
  obtain ⟨i0, hi0, hz0, hz1, hz2⟩ := info_parts info_int
  have hv3 : 1 ≤ v ∧ v ≤ 3 := by omega
  have hpp : pw (pw v) = (cntW v : Int) := by rcases hv with rfl | rfl <;> decide
  have hcnt : cntW v ≤ 16 := by rcases hv with rfl | rfl <;> decide
  have HALL := hide (fam_all hv)
  have hne := fam_len (v := v)
  have HV := hide (show v = 1 ∨ v = 2 ∨ v = 3 by omega)
  clear hv
  go_enter Try.func26, Try.ntmps26
  go_wp2_with (first
    | (go_at_call 53; refine (countOfWins_any _ _ HV.out).mono ?_; rintro e w' ⟨rfl, rfl⟩; rw [hpp])
    | fail)
  go_loopw [3, 8] (fun u i wr => ∃ t : Nat, t ≤ cntW v ∧ i = .int .i64 t ∧ Owns wr w.heap.size u (famK v t) ∧ Below w.heap.size w wr) (fun _ i _ => cntW v - (intOf i).toNat)
  case atStart => exact ⟨0, Nat.zero_le _, rfl, World.ownsRow_nil _ _ _ _, Below.refl _ _⟩
  case round =>
    obtain ⟨t, ht, rfl, hown, hb⟩ := hrel
    have HB := hide hb
    have HO := hide hown
    clear hb
    by_cases hlt : t < cntW v
    · have hltI : (t : Int) < (cntW v : Int) := by omega
      have ht16 : t < 16 := by omega
      obtain ⟨f, hf⟩ : ∃ f, upT v (winF (t : Int)) = f := ⟨_, rfl⟩
      have HF := hide hf
      clear hf
      have HT : Hid (∀ W : World, Tab (W.alloc (.cells #[Value.bool (f 0), Value.bool (f 1), Value.bool (f 2), Value.bool (f 3), Value.bool (f 4), Value.bool (f 5), Value.bool (f 6), Value.bool (f 7)] 61)) W.heap.size f) := fun W => Tab.new W f _
      cases hm : monoC v t with
      | false =>
        have hno := famK_no (v := v) (t := t) (by unfold famP; rw [hm]; rfl)
        have HNO := hide hno
        have HM := hide hm
        clear hno hm
        go_wp2_with fail
        refine (winnersOf_was v t f _ hv3 ht16 HF.out).mono ?_
        rintro e w2 ⟨rfl, b2⟩
        have B2 := hide (bnext b2 (bel1 w2 (.cells #[Value.bool (f 0), Value.bool (f 1), Value.bool (f 2), Value.bool (f 3), Value.bool (f 4), Value.bool (f 5), Value.bool (f 6), Value.bool (f 7)] 61)))
        obtain ⟨_, c0, c1, c2, c3, c4, c5, c6, c7⟩ := HT.out w2
        clear b2
        go_wp2_with fail
        refine (isGrown_was v t f false _ hv3 ht16 HF.out HM.out).mono ?_
        rintro e w3 ⟨rfl, b3⟩
        have B3 := hide (bnext B2.out b3)
        clear b3
        go_wp2
        go_roundw
        case rel => exact ⟨t + 1, by omega, by go_num, by rw [HNO.out]; exact HO.out.below B3.out, bnext HB.out B3.out⟩
        case measure => simp only [intOf]; omega
      | true =>
        cases hu : badUnan v t with
        | true =>
          have hno := famK_no (v := v) (t := t) (by unfold famP; rw [hm, hu]; rfl)
          have HNO := hide hno
          have HM := hide hm
          have HU := hide (show (!badUnan v t) = false by rw [hu]; rfl)
          clear hno hm hu
          go_wp2_with fail
          refine (winnersOf_was v t f _ hv3 ht16 HF.out).mono ?_
          rintro e w2 ⟨rfl, b2⟩
          have B2 := hide (bnext b2 (bel1 w2 (.cells #[Value.bool (f 0), Value.bool (f 1), Value.bool (f 2), Value.bool (f 3), Value.bool (f 4), Value.bool (f 5), Value.bool (f 6), Value.bool (f 7)] 61)))
          have HT2 := hide (HT.out w2)
          obtain ⟨_, c0, c1, c2, c3, c4, c5, c6, c7⟩ := HT.out w2
          clear b2
          go_wp2_with fail
          refine (isGrown_was v t f true _ hv3 ht16 HF.out HM.out).mono ?_
          rintro e w3 ⟨rfl, b3⟩
          have B3 := hide (bnext B2.out b3)
          have HT3 := HT2.out.below b3
          clear b3 c0 c1 c2 c3 c4 c5 c6 c7
          obtain ⟨_, c0, c1, c2, c3, c4, c5, c6, c7⟩ := HT3
          go_wp2_with fail
          refine (hasAll_was v t f false _ hv3 ht16 HF.out HU.out).mono ?_
          rintro e w4 ⟨rfl, b4⟩
          have B4 := hide (bnext B3.out b4)
          clear b4
          go_wp2
          go_roundw
          case rel => exact ⟨t + 1, by omega, by go_num, by rw [HNO.out]; exact HO.out.below B4.out, bnext HB.out B4.out⟩
          case measure => simp only [intOf]; omega
        | false =>
          have hno := famK_yes (v := v) (t := t) (by unfold famP; rw [hm, hu]; rfl)
          have HNO := hide hno
          have HM := hide hm
          have HU := hide (show (!badUnan v t) = true by rw [hu]; rfl)
          clear hno hm hu
          have hlen := famK_len v t
          go_wp2_with fail
          refine (winnersOf_was v t f _ hv3 ht16 HF.out).mono ?_
          rintro e w2 ⟨rfl, b2⟩
          have B2 := hide (bnext b2 (bel1 w2 (.cells #[Value.bool (f 0), Value.bool (f 1), Value.bool (f 2), Value.bool (f 3), Value.bool (f 4), Value.bool (f 5), Value.bool (f 6), Value.bool (f 7)] 61)))
          have HT2 := hide (HT.out w2)
          obtain ⟨_, c0, c1, c2, c3, c4, c5, c6, c7⟩ := HT.out w2
          clear b2
          go_wp2_with fail
          refine (isGrown_was v t f true _ hv3 ht16 HF.out HM.out).mono ?_
          rintro e w3 ⟨rfl, b3⟩
          have B3 := hide (bnext B2.out b3)
          have HT3 := HT2.out.below b3
          clear b3 c0 c1 c2 c3 c4 c5 c6 c7
          obtain ⟨_, c0, c1, c2, c3, c4, c5, c6, c7⟩ := HT3
          go_wp2_with fail
          refine (hasAll_was v t f true _ hv3 ht16 HF.out HU.out).mono ?_
          rintro e w4 ⟨rfl, b4⟩
          have B4 := hide (bnext B3.out b4)
          clear b4
          have ho4 := HO.out.below B4.out
          have hsz4 : w.heap.size ≤ w4.heap.size := Nat.le_trans HB.out.size B4.out.size
          go_wp2_with ((at_builtin; refine wpList_append_own _ rfl _ _ 23 rfl w.heap.size 3 i0 (.int .i64 0) 1 8 Try.underlying23 hi0 hz0 hz1 hz2 rfl (by decide) _ _ _ rfl (ho4.alloc _) ⟨w4.heap.size, 0, none⟩ 1 1 [.int .i64 t] rfl rfl (cell_one_new w4 _ _) (by intro u hu; simp at hu; subst hu; rfl) (by unfold maxLen; omega) (by omega) (by simp; omega) ?_))
          intro v' w5 hown' hgrow _
          have hpush := hide (Owns.push hown')
          have hbel : Below w.heap.size w w5 := ((bnext HB.out B4.out).alloc hsz4 _).grown hgrow (by simp; omega) (fun j hj => (own_ge ho4 j hj))
          clear hown' hgrow ho4
          go_wp2
          go_roundw
          case rel => exact ⟨t + 1, by omega, by go_num, by rw [HNO.out]; exact hpush.out, hbel⟩
          case measure => simp only [intOf]; omega
    · obtain rfl : t = cntW v := by omega
      have hown2 := hown
      rw [HALL.out] at hown2
      obtain ⟨a, cap, rfl, _, _⟩ := hown2.form
      have hform : ∃ g, a = some ⟨g, 0, none⟩ := by
        rcases ownsRow_forms (show wr.ownsRow w.heap.size 3 1 (.slice a (famL v).length cap) (famL v).length ((famL v).map (Value.int .i64)) from hown2) with ⟨e, h0⟩ | ⟨g, cap', e⟩
        · omega
        · cases e; exact ⟨g, rfl⟩
      obtain ⟨g, rfl⟩ := hform
      clear hown hne
      go_wp2
      go_ret
      exact ⟨g, cap, rfl, hown2, HB.out⟩
end Go.Proofs.Ytbmodiobgkmngaa
