/- The options of safe rules, by the model and by the program. -/
import Derived.Test.YtbmodiobgkmngaaSfM
import Derived.Test.YtbmodiobgkmngaaTabX
import Derived.Test.YtbmodiobgkmngaaSafeS
import Derived.Test.YtbmodiobgkmngaaRuleV
namespace Go.Proofs.Ytbmodiobgkmngaa
open Go.RowKit Go.Joins

theorem mono_one {v : Int} (hv : 1 ≤ v ∧ v ≤ 3) {t : Nat} {r : Bool} (h : r = true ↔ MonoS v [(t : Int)]) : r = monoC v t := by
  rw [Bool.eq_iff_iff, h, monoC_iff hv]
  unfold MonoS
  constructor
  · intro H g hg i hi
    have := H 0 (by simp) g hg i hi
    simpa using this
  · intro H j hj g hg i hi
    obtain rfl : j = 0 := by simp at hj; omega
    have := H g hg i hi
    simpa using this
theorem unan_one {v : Int} {t : Nat} {r : Bool} (h : r = true ↔ UnanS v [(t : Int)]) : r = !badUnan v t := by
  rw [Bool.eq_iff_iff, h]
  unfold UnanS
  constructor
  · intro H
    have := H 0 (by simp)
    simp at this
    simp [this]
  · intro H j hj
    obtain rfl : j = 0 := by simp at hj; omega
    simpa using H
theorem one_in {t : Nat} (h : t < 16) : ∀ x ∈ [(t : Int)], 0 ≤ x ∧ x ≤ 255 := fun x hx => by
  simp at hx; omega
theorem ints_one (w : World) (t : Int) (ty : TypeId) : Ints (w.alloc (.cells #[.int .i64 t] ty)) (some ⟨w.heap.size, 0, none⟩) [t] := fun _ =>
  ⟨w.heap.size, 0, rfl, by simp, fun k hk => by
    match k, hk with
    | 0, _ => simp [go_sem]⟩
theorem monotone_was (v : Int) (t : Nat) (b : Option Addr) (capb : Nat) (r : Bool) (w : World) (hv : 1 ≤ v ∧ v ≤ 3) (ht : t < 16) (hj : Ints w b [(t : Int)]) (hr : monoC v t = r) :
    Calls Try.prog 62 #[.agg #[.int .i64 v, .slice b 1 capb]] w fun e w' => e = .returned (.bool r) ∧ Below w.heap.size w w' := by
  refine (monotone_any v b [(t : Int)] capb w hv (one_in ht) hj (by simp)).mono ?_
  rintro e w' ⟨q, hq, rfl, hb⟩
  exact ⟨by rw [mono_one hv hq, hr], hb⟩
theorem unanimous_was (v : Int) (t : Nat) (b : Option Addr) (capb : Nat) (r : Bool) (w : World) (hv : 1 ≤ v ∧ v ≤ 3) (ht : t < 16) (hj : Ints w b [(t : Int)]) (hr : (!badUnan v t) = r) :
    Calls Try.prog 63 #[.agg #[.int .i64 v, .slice b 1 capb]] w fun e w' => e = .returned (.bool r) ∧ Below w.heap.size w w' := by
  refine (unanimous_any v b [(t : Int)] capb w hv (one_in ht) hj (by simp)).mono ?_
  rintro e w' ⟨q, hq, rfl, hb⟩
  exact ⟨by rw [unan_one hq, hr], hb⟩
set_option maxHeartbeats 4000000 in
set_option maxRecDepth 100000 in
theorem families_any (v : Int) (w : World) (hv : v = 1 ∨ v = 2) :
    Calls Try.prog 33 #[.int .i64 v] w fun e w' => ∃ g cap, e = .returned (.slice (some ⟨g, 0, none⟩) (famL v).length cap) ∧ Owns w' w.heap.size (.slice (some ⟨g, 0, none⟩) (famL v).length cap) (famL v) ∧ Below w.heap.size w w' := by
  obtain ⟨i0, hi0, hz0, hz1, hz2⟩ := info_parts info_int
  have hv3 : 1 ≤ v ∧ v ≤ 3 := by omega
  have hpw : pw v ≤ 4 ∧ 0 ≤ pw v := by rcases hv with rfl | rfl <;> decide
  have hpp : pw (pw v) = (cntW v : Int) := by rcases hv with rfl | rfl <;> decide
  have hcnt : cntW v ≤ 16 := by rcases hv with rfl | rfl <;> decide
  have HALL := hide (fam_all hv)
  have hne := fam_len (v := v)
  have HV := hide hv
  clear hv
  have ho0 : Owns (w.alloc (.cells #[] 3)) w.heap.size (.slice (some ⟨w.heap.size, 0, none⟩) 0 0) (famK v 0) := own_emptyS w w.heap.size (Nat.le_refl _)
  have hb0 := bel1 w (.cells #[] 3)
  obtain ⟨w1, hw1⟩ : ∃ w1 : World, w1 = w.alloc (.cells #[] 3) := ⟨_, rfl⟩
  rw [← hw1] at ho0 hb0
  go_enter Try.func33, Try.ntmps33
  go_wp2_with fail
  rw [← hw1]
  clear hw1
  go_loopw [3, 4] (fun u i wr => ∃ t : Nat, t ≤ cntW v ∧ i = .int .i64 t ∧ Owns wr w.heap.size u (famK v t) ∧ Below w.heap.size w wr) (fun _ i _ => cntW v - (intOf i).toNat)
  case atStart => exact ⟨0, Nat.zero_le _, rfl, ho0, hb0⟩
  case round =>
    clear ho0 hb0
    obtain ⟨t, ht, rfl, hown, hb⟩ := hrel
    have HB := hide hb
    have HO := hide hown
    clear hb
    by_cases hlt : t < cntW v
    · have hltI : (t : Int) < (cntW v : Int) := by omega
      have ht16 : t < 16 := by omega
      have b2 := bel2 wr (.cells #[.int .i64 t] 3) (.cells #[.int .i64 v, .slice (some ⟨wr.heap.size, 0, none⟩) 1 1] 34)
      have i1 := (ints_one wr (t : Int) 3).below (bel1 _ (.cells #[.int .i64 v, .slice (some ⟨wr.heap.size, 0, none⟩) 1 1] 34))
      have bx := Box.new (wr.alloc (.cells #[.int .i64 t] 3)) v (some ⟨wr.heap.size, 0, none⟩) 1 1 34
      simp only [World.size_alloc] at bx
      have hsz2 : ((wr.alloc (.cells #[.int .i64 t] 3)).alloc (.cells #[.int .i64 v, .slice (some ⟨wr.heap.size, 0, none⟩) 1 1] 34)).heap.size = wr.heap.size + 2 := by simp
      obtain ⟨W, hW⟩ : ∃ W : World, W = (wr.alloc (.cells #[.int .i64 t] 3)).alloc (.cells #[.int .i64 v, .slice (some ⟨wr.heap.size, 0, none⟩) 1 1] 34) := ⟨_, rfl⟩
      rw [← hW] at b2 i1 bx hsz2
      have HBX := hide bx
      have HI1 := hide i1
      have HB2 := hide b2
      obtain ⟨_, c0, c1⟩ := bx
      clear i1 b2
      cases hm : monoC v t with
      | false =>
        have hno := famK_no (v := v) (t := t) (by unfold famP; rw [hm]; rfl)
        have HNO := hide hno
        have HM := hide hm
        clear hno hm
        go_wp2_with (first
          | (go_at_call 60; refine (power_any _ _ (by omega) (by omega)).mono ?_; rintro e w' ⟨rfl, rfl⟩; try rw [hpp])
          | fail)
        rw [← hW]
        clear hW
        refine (monotone_was v t _ _ false _ hv3 ht16 HI1.out HM.out).mono ?_
        rintro e w3 ⟨rfl, b3⟩
        have B3 := hide (bnext HB2.out b3)
        clear b3
        go_wp2
        go_roundw
        case rel => exact ⟨t + 1, by omega, by go_num, by rw [HNO.out]; exact HO.out.below B3.out, bnext HB.out B3.out⟩
        case measure => simp only [intOf]; omega
      | true =>
        cases hu : badUnan v t with
        | true =>
          have hno := famK_no (v := v) (t := t) (by unfold famP; rw [hm, hu]; rfl)
          have HNO := hide hno
          have HM := hide hm
          have HU := hide (show (!badUnan v t) = false by rw [hu]; rfl)
          clear hno hm hu
          go_wp2_with (first
            | (go_at_call 60; refine (power_any _ _ (by omega) (by omega)).mono ?_; rintro e w' ⟨rfl, rfl⟩; try rw [hpp])
            | fail)
          rw [← hW]
          clear hW
          refine (monotone_was v t _ _ true _ hv3 ht16 HI1.out HM.out).mono ?_
          rintro e w3 ⟨rfl, b3⟩
          have B3 := hide (bnext HB2.out b3)
          have HBX3 := hide (HBX.out.below b3)
          have HI3 := hide (HI1.out.below b3)
          clear b3 c0 c1
          obtain ⟨_, c0, c1⟩ := HBX3.out
          go_wp2_with fail
          refine (unanimous_was v t _ _ false _ hv3 ht16 HI3.out HU.out).mono ?_
          rintro e w4 ⟨rfl, b4⟩
          have B4 := hide (bnext B3.out b4)
          clear b4
          go_wp2
          go_roundw
          case rel => exact ⟨t + 1, by omega, by go_num, by rw [HNO.out]; exact HO.out.below B4.out, bnext HB.out B4.out⟩
          case measure => simp only [intOf]; omega
        | false =>
          have hno := famK_yes (v := v) (t := t) (by unfold famP; rw [hm, hu]; rfl)
          have HNO := hide hno
          have HM := hide hm
          have HU := hide (show (!badUnan v t) = true by rw [hu]; rfl)
          clear hno hm hu
          have hlen := famK_len v t
          go_wp2_with (first
            | (go_at_call 60; refine (power_any _ _ (by omega) (by omega)).mono ?_; rintro e w' ⟨rfl, rfl⟩; try rw [hpp])
            | fail)
          rw [← hW]
          clear hW
          refine (monotone_was v t _ _ true _ hv3 ht16 HI1.out HM.out).mono ?_
          rintro e w3 ⟨rfl, b3⟩
          have B3 := hide (bnext HB2.out b3)
          have HBX3 := hide (HBX.out.below b3)
          have HI3 := hide (HI1.out.below b3)
          clear b3 c0 c1
          obtain ⟨_, c0, c1⟩ := HBX3.out
          go_wp2_with fail
          refine (unanimous_was v t _ _ true _ hv3 ht16 HI3.out HU.out).mono ?_
          rintro e w4 ⟨rfl, b4⟩
          have B4 := hide (bnext B3.out b4)
          clear b4
          have ho4 := HO.out.below B4.out
          have hsz4 : w.heap.size ≤ w4.heap.size := Nat.le_trans HB.out.size B4.out.size
          go_wp2_with ((at_builtin; refine wpList_append_own _ rfl _ _ 23 rfl w.heap.size 3 i0 (.int .i64 0) 1 8 Try.underlying23 hi0 hz0 hz1 hz2 rfl (by decide) _ _ _ rfl (ho4.alloc _) ⟨w4.heap.size, 0, none⟩ 1 1 [.int .i64 t] rfl rfl (cell_one_new w4 _ _) (by intro u hu; simp at hu; subst hu; rfl) (by unfold maxLen; omega) (by omega) (by simp; omega) ?_))
          intro v' w5 hown' hgrow _
          have hpush := hide (Owns.push hown')
          have hbel : Below w.heap.size w w5 := ((bnext HB.out B4.out).alloc hsz4 _).grown hgrow (by simp; omega) (fun j hj => (own_ge ho4 j hj))
          clear hown' hgrow ho4
          go_wp2
          go_roundw
          case rel => exact ⟨t + 1, by omega, by go_num, by rw [HNO.out]; exact hpush.out, hbel⟩
          case measure => simp only [intOf]; omega
    · obtain rfl : t = cntW v := by omega
      have hown2 := hown
      rw [HALL.out] at hown2
      obtain ⟨a, cap, rfl, _, _⟩ := hown2.form
      have hform : ∃ g, a = some ⟨g, 0, none⟩ := by
        rcases ownsRow_forms (show wr.ownsRow w.heap.size 3 1 (.slice a (famL v).length cap) (famL v).length ((famL v).map (Value.int .i64)) from hown2) with ⟨e, h0⟩ | ⟨g, cap', e⟩
        · omega
        · cases e; exact ⟨g, rfl⟩
      obtain ⟨g, rfl⟩ := hform
      clear hown hne
      go_wp2_with (first
        | (go_at_call 60; refine (power_any _ _ (by omega) (by omega)).mono ?_; rintro e w' ⟨rfl, rfl⟩; try rw [hpp])
        | fail)
      go_ret
      exact ⟨g, cap, rfl, hown2, HB.out⟩
end Go.Proofs.Ytbmodiobgkmngaa
