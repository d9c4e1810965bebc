/- Texts of this seat one behind the other: Gto, SfF, SfG, SfS, SfT, SfI. Conditions: none. -/
import Derived.Test.YtbmodiobgkmngaaBase
import Derived.Test.YtbmodiobgkmngaaSfM
import Derived.Test.YtbmodiobgkmngaaTabX
import Derived.Test.YtbmodiobgkmngaaSafeS
import Derived.Test.YtbmodiobgkmngaaRuleV
import Derived.Test.YtbmodiobgkmngaaSfN
import Derived.Test.YtbmodiobgkmngaaRls
import Derived.Test.YtbmodiobgkmngaaSfH
import Derived.Test.YtbmodiobgkmngaaSafeI
import Derived.Scope
import Derived.ScopeJumps
import Derived.Deep.RegionWith
import Derived.Lib.SliceRun

/- Gto: A scope in which the run jumps to either of two labels: what holds at each, with a number that every pass makes less (my own law of the machine). -/
namespace Go.Proofs.Ytbmodiobgkmngaa
open Go Go.RowKit Go.Joins

/-- what each way out of a pass with m passes left must find -/
def Two (J0 J1 : Nat → Act → World → Prop) (m : Nat) (Q : Exit → Act → World → Prop) (e : Exit) (a : Act) (w : World) : Prop :=
  match e with
  | .goto 0 => ∃ k, k < m ∧ J0 k a w
  | .goto 1 => ∃ k, k < m ∧ J1 k a w
  | .goto _ => False
  | e => Q e a w
theorem two_less {J0 J1 : Nat → Act → World → Prop} {m k : Nat} {Q : Exit → Act → World → Prop} (h : k ≤ m) : ∀ e a w, Two J0 J1 k Q e a w → Two J0 J1 m Q e a w := by
  intro e a w hq
  cases e with
  | goto l =>
    rcases l with _ | _ | l
    · obtain ⟨i, hi, hj⟩ := hq; exact ⟨i, by omega, hj⟩
    · obtain ⟨i, hi, hj⟩ := hq; exact ⟨i, by omega, hj⟩
    · exact hq
  | normal => exact hq
  | exit id => exact hq
  | ret => exact hq
  | panic ch => exact hq
  | outgrown => exact hq
theorem wp_weaken {P : Program} {c : Code} {Q Q' : Exit → Act → World → Prop} {a : Act} {w : World} (h : ∀ e a w, Q e a w → Q' e a w) (hc : c.wp P Q a w) : c.wp P Q' a w := by
  intro b k cs
  obtain ⟨e, a1, w1, hq, harr⟩ := hc b k cs
  exact ⟨e, a1, w1, h _ _ _ hq, harr⟩
theorem wp_scope_two {P : Program} {c r0 r1 : Code} {J0 J1 : Nat → Act → World → Prop} {Q : Exit → Act → World → Prop} {a : Act} {w : World} (M : Nat)
    (h0 : findLabel c 0 = some (.seq .skip r0)) (h1 : findLabel c 1 = some (.seq .skip r1))
    (p1 : ∀ m a w, J1 m a w → r1.wp P (Two J0 J1 m Q) a w)
    (p0 : (∀ m a w, J1 m a w → r1.wp P (Two J0 J1 m Q) a w) → ∀ m a w, J0 m a w → r0.wp P (Two J0 J1 m Q) a w)
    (first : (∀ m a w, J0 m a w → r0.wp P (Two J0 J1 m Q) a w) → c.wp P (Two J0 J1 M Q) a w) : (Code.scope c).wp P Q a w := by
  have q0 := p0 p1
  have first' := first q0
  intro b k cs
  have g0 : gotoIn 0 (.inScope c :: k) = some (.code (.seq .skip r0) :: .inScope c :: k) := by simp [gotoIn, h0]
  have g1 : gotoIn 1 (.inScope c :: k) = some (.code (.seq .skip r1) :: .inScope c :: k) := by simp [gotoIn, h1]
  -- a pass from a state at a label arrives where the scope's end must
  have key : ∀ m, (∀ a w, J0 m a w → ∃ e a' w', Q e a' w' ∧ Arrives P (lone (b.at a (.code (.seq .skip r0) :: .inScope c :: k)) cs w) b k cs e a' w') ∧ (∀ a w, J1 m a w → ∃ e a' w', Q e a' w' ∧ Arrives P (lone (b.at a (.code (.seq .skip r1) :: .inScope c :: k)) cs w) b k cs e a' w') := by
    intro m
    induction m using Nat.strongRecOn with
    | _ m ih =>
      have go : ∀ (r : Code) (a : Act) (w : World), r.wp P (Two J0 J1 m Q) a w → ∃ e a' w', Q e a' w' ∧ Arrives P (lone (b.at a (.code r :: .inScope c :: k)) cs w) b k cs e a' w' := by
        intro r a w hr
        obtain ⟨e, a1, w1, hq, harr⟩ := hr b (.inScope c :: k) cs
        cases e with
        | normal => exact ⟨.normal, a1, w1, hq, Steps.trans harr (.one step_inScope)⟩
        | exit id => exact ⟨.exit id, a1, w1, hq, fun k' hk => harr k' (by simp [exitTo, hk])⟩
        | goto l =>
          rcases l with _ | _ | l
          · obtain ⟨i, hi, hj⟩ := hq
            obtain ⟨e2, a2, w2, hq2, harr2⟩ := (ih i hi).1 a1 w1 hj
            exact ⟨e2, a2, w2, hq2, .of_steps (harr _ g0) harr2⟩
          · obtain ⟨i, hi, hj⟩ := hq
            obtain ⟨e2, a2, w2, hq2, harr2⟩ := (ih i hi).2 a1 w1 hj
            exact ⟨e2, a2, w2, hq2, .of_steps (harr _ g1) harr2⟩
          · exact hq.elim
        | ret => exact ⟨_, a1, w1, hq, harr⟩
        | panic ch => exact ⟨_, a1, w1, hq, harr⟩
        | outgrown => exact ⟨_, a1, w1, hq, harr⟩
      exact ⟨fun a w hj => go (.seq .skip r0) a w (wp_seq (wp_skip (q0 m a w hj))), fun a w hj => go (.seq .skip r1) a w (wp_seq (wp_skip (p1 m a w hj)))⟩
  obtain ⟨e, a1, w1, hq, harr⟩ := first' b (.inScope c :: k) cs
  cases e with
  | normal => exact ⟨.normal, a1, w1, hq, .head step_scope (Steps.trans harr (.one step_inScope))⟩
  | exit id => exact ⟨.exit id, a1, w1, hq, fun k' hk => .head step_scope (harr k' (by simp [exitTo, hk]))⟩
  | goto l =>
    rcases l with _ | _ | l
    · obtain ⟨i, _, hj⟩ := hq
      obtain ⟨e2, a2, w2, hq2, harr2⟩ := (key i).1 a1 w1 hj
      exact ⟨e2, a2, w2, hq2, .of_steps (.head step_scope (harr _ g0)) harr2⟩
    · obtain ⟨i, _, hj⟩ := hq
      obtain ⟨e2, a2, w2, hq2, harr2⟩ := (key i).2 a1 w1 hj
      exact ⟨e2, a2, w2, hq2, .of_steps (.head step_scope (harr _ g1)) harr2⟩
    · exact hq.elim
  | ret => exact ⟨_, a1, w1, hq, .of_steps (.one step_scope) harr⟩
  | panic ch => exact ⟨_, a1, w1, hq, .of_steps (.one step_scope) harr⟩
  | outgrown => exact ⟨_, a1, w1, hq, .of_steps (.one step_scope) harr⟩
end Go.Proofs.Ytbmodiobgkmngaa

/- SfF: The options of safe rules, by the model and by the program. -/
namespace Go.Proofs.Ytbmodiobgkmngaa
open Go.RowKit Go.Joins

theorem mono_one {v : Int} (hv : 1 ≤ v ∧ v ≤ 3) {t : Nat} {r : Bool} (h : r = true ↔ MonoS v [(t : Int)]) : r = monoC v t := by
  rw [Bool.eq_iff_iff, h, monoC_iff hv]
  unfold MonoS
  constructor
  · intro H g hg i hi
    have := H 0 (by simp) g hg i hi
    simpa using this
  · intro H j hj g hg i hi
    obtain rfl : j = 0 := by simp at hj; omega
    have := H g hg i hi
    simpa using this
theorem unan_one {v : Int} {t : Nat} {r : Bool} (h : r = true ↔ UnanS v [(t : Int)]) : r = !badUnan v t := by
  rw [Bool.eq_iff_iff, h]
  unfold UnanS
  constructor
  · intro H
    have := H 0 (by simp)
    simp at this
    simp [this]
  · intro H j hj
    obtain rfl : j = 0 := by simp at hj; omega
    simpa using H
theorem one_in {t : Nat} (h : t < 16) : ∀ x ∈ [(t : Int)], 0 ≤ x ∧ x ≤ 255 := fun x hx => by
  simp at hx; omega
theorem ints_one (w : World) (t : Int) (ty : TypeId) : Ints (w.alloc (.cells #[.int .i64 t] ty)) (some ⟨w.heap.size, 0, none⟩) [t] := fun _ =>
  ⟨w.heap.size, 0, rfl, by simp, fun k hk => by
    match k, hk with
    | 0, _ => simp [go_sem]⟩
theorem monotone_was (v : Int) (t : Nat) (b : Option Addr) (capb : Nat) (r : Bool) (w : World) (hv : 1 ≤ v ∧ v ≤ 3) (ht : t < 16) (hj : Ints w b [(t : Int)]) (hr : monoC v t = r) :
    Calls Try.prog 62 #[.agg #[.int .i64 v, .slice b 1 capb]] w fun e w' => e = .returned (.bool r) ∧ Below w.heap.size w w' := by
  refine (monotone_any v b [(t : Int)] capb w hv (one_in ht) hj (by simp)).mono ?_
  rintro e w' ⟨q, hq, rfl, hb⟩
  exact ⟨by rw [mono_one hv hq, hr], hb⟩
theorem unanimous_was (v : Int) (t : Nat) (b : Option Addr) (capb : Nat) (r : Bool) (w : World) (hv : 1 ≤ v ∧ v ≤ 3) (ht : t < 16) (hj : Ints w b [(t : Int)]) (hr : (!badUnan v t) = r) :
    Calls Try.prog 63 #[.agg #[.int .i64 v, .slice b 1 capb]] w fun e w' => e = .returned (.bool r) ∧ Below w.heap.size w w' := by
  refine (unanimous_any v b [(t : Int)] capb w hv (one_in ht) hj (by simp)).mono ?_
  rintro e w' ⟨q, hq, rfl, hb⟩
  exact ⟨by rw [unan_one hq, hr], hb⟩
set_option maxHeartbeats 4000000 in
set_option maxRecDepth 100000 in
theorem families_any (v : Int) (w : World) (hv : v = 1 ∨ v = 2) :
    Calls Try.prog 33 #[.int .i64 v] w fun e w' => ∃ g cap, e = .returned (.slice (some ⟨g, 0, none⟩) (famL v).length cap) ∧ Owns w' w.heap.size (.slice (some ⟨g, 0, none⟩) (famL v).length cap) (famL v) ∧ Below w.heap.size w w' := by
  obtain ⟨i0, hi0, hz0, hz1, hz2⟩ := info_parts info_int
  have hv3 : 1 ≤ v ∧ v ≤ 3 := by omega
  have hpw : pw v ≤ 4 ∧ 0 ≤ pw v := by rcases hv with rfl | rfl <;> decide
  have hpp : pw (pw v) = (cntW v : Int) := by rcases hv with rfl | rfl <;> decide
  have hcnt : cntW v ≤ 16 := by rcases hv with rfl | rfl <;> decide
  have HALL := hide (fam_all hv)
  have hne := fam_len (v := v)
  have HV := hide hv
  clear hv
  have ho0 : Owns (w.alloc (.cells #[] 3)) w.heap.size (.slice (some ⟨w.heap.size, 0, none⟩) 0 0) (famK v 0) := own_emptyS w w.heap.size (Nat.le_refl _)
  have hb0 := bel1 w (.cells #[] 3)
  obtain ⟨w1, hw1⟩ : ∃ w1 : World, w1 = w.alloc (.cells #[] 3) := ⟨_, rfl⟩
  rw [← hw1] at ho0 hb0
  go_enter Try.func33, Try.ntmps33
  go_wp2_with fail
  rw [← hw1]
  clear hw1
  go_loopw [3, 4] (fun u i wr => ∃ t : Nat, t ≤ cntW v ∧ i = .int .i64 t ∧ Owns wr w.heap.size u (famK v t) ∧ Below w.heap.size w wr) (fun _ i _ => cntW v - (intOf i).toNat)
  case atStart => exact ⟨0, Nat.zero_le _, rfl, ho0, hb0⟩
  case round =>
    clear ho0 hb0
    obtain ⟨t, ht, rfl, hown, hb⟩ := hrel
    have HB := hide hb
    have HO := hide hown
    clear hb
    by_cases hlt : t < cntW v
    · have hltI : (t : Int) < (cntW v : Int) := by omega
      have ht16 : t < 16 := by omega
      have b2 := bel2 wr (.cells #[.int .i64 t] 3) (.cells #[.int .i64 v, .slice (some ⟨wr.heap.size, 0, none⟩) 1 1] 34)
      have i1 := (ints_one wr (t : Int) 3).below (bel1 _ (.cells #[.int .i64 v, .slice (some ⟨wr.heap.size, 0, none⟩) 1 1] 34))
      have bx := Box.new (wr.alloc (.cells #[.int .i64 t] 3)) v (some ⟨wr.heap.size, 0, none⟩) 1 1 34
      simp only [World.size_alloc] at bx
      have hsz2 : ((wr.alloc (.cells #[.int .i64 t] 3)).alloc (.cells #[.int .i64 v, .slice (some ⟨wr.heap.size, 0, none⟩) 1 1] 34)).heap.size = wr.heap.size + 2 := by simp
      obtain ⟨W, hW⟩ : ∃ W : World, W = (wr.alloc (.cells #[.int .i64 t] 3)).alloc (.cells #[.int .i64 v, .slice (some ⟨wr.heap.size, 0, none⟩) 1 1] 34) := ⟨_, rfl⟩
      rw [← hW] at b2 i1 bx hsz2
      have HBX := hide bx
      have HI1 := hide i1
      have HB2 := hide b2
      obtain ⟨_, c0, c1⟩ := bx
      clear i1 b2
      cases hm : monoC v t with
      | false =>
        have hno := famK_no (v := v) (t := t) (by unfold famP; rw [hm]; rfl)
        have HNO := hide hno
        have HM := hide hm
        clear hno hm
        go_wp2_with (first
          | (go_at_call 60; refine (power_any _ _ (by omega) (by omega)).mono ?_; rintro e w' ⟨rfl, rfl⟩; try rw [hpp])
          | fail)
        rw [← hW]
        clear hW
        refine (monotone_was v t _ _ false _ hv3 ht16 HI1.out HM.out).mono ?_
        rintro e w3 ⟨rfl, b3⟩
        have B3 := hide (bnext HB2.out b3)
        clear b3
        go_wp2
        go_roundw
        case rel => exact ⟨t + 1, by omega, by go_num, by rw [HNO.out]; exact HO.out.below B3.out, bnext HB.out B3.out⟩
        case measure => simp only [intOf]; omega
      | true =>
        cases hu : badUnan v t with
        | true =>
          have hno := famK_no (v := v) (t := t) (by unfold famP; rw [hm, hu]; rfl)
          have HNO := hide hno
          have HM := hide hm
          have HU := hide (show (!badUnan v t) = false by rw [hu]; rfl)
          clear hno hm hu
          go_wp2_with (first
            | (go_at_call 60; refine (power_any _ _ (by omega) (by omega)).mono ?_; rintro e w' ⟨rfl, rfl⟩; try rw [hpp])
            | fail)
          rw [← hW]
          clear hW
          refine (monotone_was v t _ _ true _ hv3 ht16 HI1.out HM.out).mono ?_
          rintro e w3 ⟨rfl, b3⟩
          have B3 := hide (bnext HB2.out b3)
          have HBX3 := hide (HBX.out.below b3)
          have HI3 := hide (HI1.out.below b3)
          clear b3 c0 c1
          obtain ⟨_, c0, c1⟩ := HBX3.out
          go_wp2_with fail
          refine (unanimous_was v t _ _ false _ hv3 ht16 HI3.out HU.out).mono ?_
          rintro e w4 ⟨rfl, b4⟩
          have B4 := hide (bnext B3.out b4)
          clear b4
          go_wp2
          go_roundw
          case rel => exact ⟨t + 1, by omega, by go_num, by rw [HNO.out]; exact HO.out.below B4.out, bnext HB.out B4.out⟩
          case measure => simp only [intOf]; omega
        | false =>
          have hno := famK_yes (v := v) (t := t) (by unfold famP; rw [hm, hu]; rfl)
          have HNO := hide hno
          have HM := hide hm
          have HU := hide (show (!badUnan v t) = true by rw [hu]; rfl)
          clear hno hm hu
          have hlen := famK_len v t
          go_wp2_with (first
            | (go_at_call 60; refine (power_any _ _ (by omega) (by omega)).mono ?_; rintro e w' ⟨rfl, rfl⟩; try rw [hpp])
            | fail)
          rw [← hW]
          clear hW
          refine (monotone_was v t _ _ true _ hv3 ht16 HI1.out HM.out).mono ?_
          rintro e w3 ⟨rfl, b3⟩
          have B3 := hide (bnext HB2.out b3)
          have HBX3 := hide (HBX.out.below b3)
          have HI3 := hide (HI1.out.below b3)
          clear b3 c0 c1
          obtain ⟨_, c0, c1⟩ := HBX3.out
          go_wp2_with fail
          refine (unanimous_was v t _ _ true _ hv3 ht16 HI3.out HU.out).mono ?_
          rintro e w4 ⟨rfl, b4⟩
          have B4 := hide (bnext B3.out b4)
          clear b4
          have ho4 := HO.out.below B4.out
          have hsz4 : w.heap.size ≤ w4.heap.size := Nat.le_trans HB.out.size B4.out.size
          go_wp2_with ((at_builtin; refine wpList_append_own _ rfl _ _ 23 rfl w.heap.size 3 i0 (.int .i64 0) 1 8 Try.underlying23 hi0 hz0 hz1 hz2 rfl (by decide) _ _ _ rfl (ho4.alloc _) ⟨w4.heap.size, 0, none⟩ 1 1 [.int .i64 t] rfl rfl (cell_one_new w4 _ _) (by intro u hu; simp at hu; subst hu; rfl) (by unfold maxLen; omega) (by omega) (by simp; omega) ?_))
          intro v' w5 hown' hgrow _
          have hpush := hide (Owns.push hown')
          have hbel : Below w.heap.size w w5 := ((bnext HB.out B4.out).alloc hsz4 _).grown hgrow (by simp; omega) (fun j hj => (own_ge ho4 j hj))
          clear hown' hgrow ho4
          go_wp2
          go_roundw
          case rel => exact ⟨t + 1, by omega, by go_num, by rw [HNO.out]; exact hpush.out, hbel⟩
          case measure => simp only [intOf]; omega
    · obtain rfl : t = cntW v := by omega
      have hown2 := hown
      rw [HALL.out] at hown2
      obtain ⟨a, cap, rfl, _, _⟩ := hown2.form
      have hform : ∃ g, a = some ⟨g, 0, none⟩ := by
        rcases ownsRow_forms (show wr.ownsRow w.heap.size 3 1 (.slice a (famL v).length cap) (famL v).length ((famL v).map (Value.int .i64)) from hown2) with ⟨e, h0⟩ | ⟨g, cap', e⟩
        · omega
        · cases e; exact ⟨g, rfl⟩
      obtain ⟨g, rfl⟩ := hform
      clear hown hne
      go_wp2_with (first
        | (go_at_call 60; refine (power_any _ _ (by omega) (by omega)).mono ?_; rintro e w' ⟨rfl, rfl⟩; try rw [hpp])
        | fail)
      go_ret
      exact ⟨g, cap, rfl, hown2, HB.out⟩
end Go.Proofs.Ytbmodiobgkmngaa

/- SfG: The options of safe rules, by the program. -/
namespace Go.Proofs.Ytbmodiobgkmngaa
open Go.RowKit Go.Joins

theorem winnersOf_was (v : Int) (t : Nat) (f : Nat → Bool) (w : World) (hv : 1 ≤ v ∧ v ≤ 3) (ht : t < 16) (hf : upT v (winF (t : Int)) = f) :
    Calls Try.prog 54 #[.int .i64 v, .int .i64 t] w fun e w' => e = .returned (.agg #[Value.bool (f 0), Value.bool (f 1), Value.bool (f 2), Value.bool (f 3), Value.bool (f 4), Value.bool (f 5), Value.bool (f 6), Value.bool (f 7)]) ∧ Below w.heap.size w w' := by
  subst hf
  exact winnersOf_any v t w hv (by omega)
theorem isGrown_was (v : Int) (t : Nat) (f : Nat → Bool) (r : Bool) (w : World) (hv : 1 ≤ v ∧ v ≤ 3) (ht : t < 16) (hf : upT v (winF (t : Int)) = f) (hr : monoC v t = r) :
    Calls Try.prog 38 #[.int .i64 v, .agg #[Value.bool (f 0), Value.bool (f 1), Value.bool (f 2), Value.bool (f 3), Value.bool (f 4), Value.bool (f 5), Value.bool (f 6), Value.bool (f 7)]] w fun e w' => e = .returned (.bool r) ∧ Below w.heap.size w w' := by
  refine (isGrown_any v f w hv).mono ?_
  rintro e w' ⟨rfl, hb⟩
  have h := mono_eq (v := v) (x := (t : Int)) hv (by omega)
  rw [Int.toNat_natCast, hr] at h
  unfold holdMono at h
  rw [hf] at h
  exact ⟨by rw [h], hb⟩
theorem hasAll_was (v : Int) (t : Nat) (f : Nat → Bool) (r : Bool) (w : World) (hv : 1 ≤ v ∧ v ≤ 3) (ht : t < 16) (hf : upT v (winF (t : Int)) = f) (hr : (!badUnan v t) = r) :
    Calls Try.prog 39 #[.int .i64 v, .agg #[Value.bool (f 0), Value.bool (f 1), Value.bool (f 2), Value.bool (f 3), Value.bool (f 4), Value.bool (f 5), Value.bool (f 6), Value.bool (f 7)]] w fun e w' => e = .returned (.bool r) ∧ Below w.heap.size w w' := by
  refine (hasAllNotNone_any v f w hv).mono ?_
  rintro e w' ⟨rfl, hb⟩
  have h := unan_eq (v := v) (x := (t : Int)) hv (by omega)
  rw [Int.toNat_natCast, hr] at h
  unfold holdUnan at h
  rw [hf] at h
  exact ⟨by rw [h], hb⟩
set_option maxHeartbeats 4000000 in
set_option maxRecDepth 100000 in
theorem fairWins_any (v : Int) (w : World) (hv : v = 1 ∨ v = 2) :
    Calls Try.prog 26 #[.int .i64 v] w fun e w' => ∃ g cap, e = .returned (.slice (some ⟨g, 0, none⟩) (famL v).length cap) ∧ Owns w' w.heap.size (.slice (some ⟨g, 0, none⟩) (famL v).length cap) (famL v) ∧ Below w.heap.size w w' := by
  obtain ⟨i0, hi0, hz0, hz1, hz2⟩ := info_parts info_int
  have hv3 : 1 ≤ v ∧ v ≤ 3 := by omega
  have hpp : pw (pw v) = (cntW v : Int) := by rcases hv with rfl | rfl <;> decide
  have hcnt : cntW v ≤ 16 := by rcases hv with rfl | rfl <;> decide
  have HALL := hide (fam_all hv)
  have hne := fam_len (v := v)
  have HV := hide (show v = 1 ∨ v = 2 ∨ v = 3 by omega)
  clear hv
  go_enter Try.func26, Try.ntmps26
  go_wp2_with (first
    | (go_at_call 53; refine (countOfWins_any _ _ HV.out).mono ?_; rintro e w' ⟨rfl, rfl⟩; rw [hpp])
    | fail)
  go_loopw [3, 8] (fun u i wr => ∃ t : Nat, t ≤ cntW v ∧ i = .int .i64 t ∧ Owns wr w.heap.size u (famK v t) ∧ Below w.heap.size w wr) (fun _ i _ => cntW v - (intOf i).toNat)
  case atStart => exact ⟨0, Nat.zero_le _, rfl, World.ownsRow_nil _ _ _ _, Below.refl _ _⟩
  case round =>
    obtain ⟨t, ht, rfl, hown, hb⟩ := hrel
    have HB := hide hb
    have HO := hide hown
    clear hb
    by_cases hlt : t < cntW v
    · have hltI : (t : Int) < (cntW v : Int) := by omega
      have ht16 : t < 16 := by omega
      obtain ⟨f, hf⟩ : ∃ f, upT v (winF (t : Int)) = f := ⟨_, rfl⟩
      have HF := hide hf
      clear hf
      have HT : Hid (∀ W : World, Tab (W.alloc (.cells #[Value.bool (f 0), Value.bool (f 1), Value.bool (f 2), Value.bool (f 3), Value.bool (f 4), Value.bool (f 5), Value.bool (f 6), Value.bool (f 7)] 61)) W.heap.size f) := fun W => Tab.new W f _
      cases hm : monoC v t with
      | false =>
        have hno := famK_no (v := v) (t := t) (by unfold famP; rw [hm]; rfl)
        have HNO := hide hno
        have HM := hide hm
        clear hno hm
        go_wp2_with fail
        refine (winnersOf_was v t f _ hv3 ht16 HF.out).mono ?_
        rintro e w2 ⟨rfl, b2⟩
        have B2 := hide (bnext b2 (bel1 w2 (.cells #[Value.bool (f 0), Value.bool (f 1), Value.bool (f 2), Value.bool (f 3), Value.bool (f 4), Value.bool (f 5), Value.bool (f 6), Value.bool (f 7)] 61)))
        obtain ⟨_, c0, c1, c2, c3, c4, c5, c6, c7⟩ := HT.out w2
        clear b2
        go_wp2_with fail
        refine (isGrown_was v t f false _ hv3 ht16 HF.out HM.out).mono ?_
        rintro e w3 ⟨rfl, b3⟩
        have B3 := hide (bnext B2.out b3)
        clear b3
        go_wp2
        go_roundw
        case rel => exact ⟨t + 1, by omega, by go_num, by rw [HNO.out]; exact HO.out.below B3.out, bnext HB.out B3.out⟩
        case measure => simp only [intOf]; omega
      | true =>
        cases hu : badUnan v t with
        | true =>
          have hno := famK_no (v := v) (t := t) (by unfold famP; rw [hm, hu]; rfl)
          have HNO := hide hno
          have HM := hide hm
          have HU := hide (show (!badUnan v t) = false by rw [hu]; rfl)
          clear hno hm hu
          go_wp2_with fail
          refine (winnersOf_was v t f _ hv3 ht16 HF.out).mono ?_
          rintro e w2 ⟨rfl, b2⟩
          have B2 := hide (bnext b2 (bel1 w2 (.cells #[Value.bool (f 0), Value.bool (f 1), Value.bool (f 2), Value.bool (f 3), Value.bool (f 4), Value.bool (f 5), Value.bool (f 6), Value.bool (f 7)] 61)))
          have HT2 := hide (HT.out w2)
          obtain ⟨_, c0, c1, c2, c3, c4, c5, c6, c7⟩ := HT.out w2
          clear b2
          go_wp2_with fail
          refine (isGrown_was v t f true _ hv3 ht16 HF.out HM.out).mono ?_
          rintro e w3 ⟨rfl, b3⟩
          have B3 := hide (bnext B2.out b3)
          have HT3 := HT2.out.below b3
          clear b3 c0 c1 c2 c3 c4 c5 c6 c7
          obtain ⟨_, c0, c1, c2, c3, c4, c5, c6, c7⟩ := HT3
          go_wp2_with fail
          refine (hasAll_was v t f false _ hv3 ht16 HF.out HU.out).mono ?_
          rintro e w4 ⟨rfl, b4⟩
          have B4 := hide (bnext B3.out b4)
          clear b4
          go_wp2
          go_roundw
          case rel => exact ⟨t + 1, by omega, by go_num, by rw [HNO.out]; exact HO.out.below B4.out, bnext HB.out B4.out⟩
          case measure => simp only [intOf]; omega
        | false =>
          have hno := famK_yes (v := v) (t := t) (by unfold famP; rw [hm, hu]; rfl)
          have HNO := hide hno
          have HM := hide hm
          have HU := hide (show (!badUnan v t) = true by rw [hu]; rfl)
          clear hno hm hu
          have hlen := famK_len v t
          go_wp2_with fail
          refine (winnersOf_was v t f _ hv3 ht16 HF.out).mono ?_
          rintro e w2 ⟨rfl, b2⟩
          have B2 := hide (bnext b2 (bel1 w2 (.cells #[Value.bool (f 0), Value.bool (f 1), Value.bool (f 2), Value.bool (f 3), Value.bool (f 4), Value.bool (f 5), Value.bool (f 6), Value.bool (f 7)] 61)))
          have HT2 := hide (HT.out w2)
          obtain ⟨_, c0, c1, c2, c3, c4, c5, c6, c7⟩ := HT.out w2
          clear b2
          go_wp2_with fail
          refine (isGrown_was v t f true _ hv3 ht16 HF.out HM.out).mono ?_
          rintro e w3 ⟨rfl, b3⟩
          have B3 := hide (bnext B2.out b3)
          have HT3 := HT2.out.below b3
          clear b3 c0 c1 c2 c3 c4 c5 c6 c7
          obtain ⟨_, c0, c1, c2, c3, c4, c5, c6, c7⟩ := HT3
          go_wp2_with fail
          refine (hasAll_was v t f true _ hv3 ht16 HF.out HU.out).mono ?_
          rintro e w4 ⟨rfl, b4⟩
          have B4 := hide (bnext B3.out b4)
          clear b4
          have ho4 := HO.out.below B4.out
          have hsz4 : w.heap.size ≤ w4.heap.size := Nat.le_trans HB.out.size B4.out.size
          go_wp2_with ((at_builtin; refine wpList_append_own _ rfl _ _ 23 rfl w.heap.size 3 i0 (.int .i64 0) 1 8 Try.underlying23 hi0 hz0 hz1 hz2 rfl (by decide) _ _ _ rfl (ho4.alloc _) ⟨w4.heap.size, 0, none⟩ 1 1 [.int .i64 t] rfl rfl (cell_one_new w4 _ _) (by intro u hu; simp at hu; subst hu; rfl) (by unfold maxLen; omega) (by omega) (by simp; omega) ?_))
          intro v' w5 hown' hgrow _
          have hpush := hide (Owns.push hown')
          have hbel : Below w.heap.size w w5 := ((bnext HB.out B4.out).alloc hsz4 _).grown hgrow (by simp; omega) (fun j hj => (own_ge ho4 j hj))
          clear hown' hgrow ho4
          go_wp2
          go_roundw
          case rel => exact ⟨t + 1, by omega, by go_num, by rw [HNO.out]; exact hpush.out, hbel⟩
          case measure => simp only [intOf]; omega
    · obtain rfl : t = cntW v := by omega
      have hown2 := hown
      rw [HALL.out] at hown2
      obtain ⟨a, cap, rfl, _, _⟩ := hown2.form
      have hform : ∃ g, a = some ⟨g, 0, none⟩ := by
        rcases ownsRow_forms (show wr.ownsRow w.heap.size 3 1 (.slice a (famL v).length cap) (famL v).length ((famL v).map (Value.int .i64)) from hown2) with ⟨e, h0⟩ | ⟨g, cap', e⟩
        · omega
        · cases e; exact ⟨g, rfl⟩
      obtain ⟨g, rfl⟩ := hform
      clear hown hne
      go_wp2
      go_ret
      exact ⟨g, cap, rfl, hown2, HB.out⟩
end Go.Proofs.Ytbmodiobgkmngaa

/- SfS: All safe rules in the model. -/
namespace Go.Proofs.Ytbmodiobgkmngaa
open Go.RowKit Go.Joins

theorem rl_ne {w : World} {B B' n b len c : Nat} {u : Value} {xs : List Value} {ws : List Int} (h : w.ownsRow B 34 2 u n xs) (ho : Owns w B' (.slice (some ⟨b, 0, none⟩) len c) ws) : u.ownBlock ≠ some b := by
  intro e
  rcases h.2 with ⟨rfl, _⟩ | ⟨g, cap, cur, rfl, _, hh, _⟩
  · cases e
  · have e' : g = b := by simpa [Value.ownBlock] using e
    subst e'
    have ho' : w.ownsRow B' 3 1 (.slice (some ⟨g, 0, none⟩) len c) ws.length (ws.map (Value.int .i64)) := ho
    rcases ho'.2 with ⟨e2, _⟩ | ⟨g2, cap2, cur2, e2, _, hh2, _⟩
    · cases e2
    · cases e2
      rw [hh] at hh2
      simp at hh2
theorem RL.append {w w' : World} {B B' : Nat} {u v v' : Value} {ts us : List RT} (h : RL w B u ts) (h' : RL w B' v us) (hB : B ≤ B') (hown : w'.ownsRow B 34 2 v' (ts.length + us.length) (rflat ts ++ rflat us)) (hg : w.grownBy w' u.ownBlock) : RL w' B v' (ts ++ us) := by
  refine ⟨by rw [rflat_app, List.length_append]; exact hown, fun t ht => ?_⟩
  rcases List.mem_append.1 ht with ht | ht
  · exact own_kept (h.2 t ht) hg fun k hk e => rl_ne h.1 (h.2 t ht) (by rw [hk]; simpa [Value.ownBlock] using e.symm)
  · exact (own_kept (h'.2 t ht) hg fun k hk e => rl_ne h.1 (h'.2 t ht) (by rw [hk]; simpa [Value.ownBlock] using e.symm)).le hB
theorem RL.empty {B : Nat} (w : World) (hb : B ≤ w.heap.size) : RL (w.alloc (.cells #[] 34)) B (.slice (some ⟨w.heap.size, 0, none⟩) 0 0) [] :=
  ⟨⟨rfl, .inr ⟨w.heap.size, 0, #[], rfl, hb, heap_alloc_new w _, Nat.le_refl _, by unfold maxLen; omega, rfl, rfl⟩⟩, fun t ht => by cases ht⟩
theorem RL.one {w : World} {B b c : Nat} {v : Int} {ws : List Int} (h : Owns w B (.slice (some ⟨b, 0, none⟩) ws.length c) ws) (hb : B ≤ w.heap.size) :
    RL (w.alloc (.cells #[.int .i64 v, .slice (some ⟨b, 0, none⟩) ws.length c] 34)) B (.slice (some ⟨w.heap.size, 0, none⟩) 1 1) [(v, ws, b, c)] := by
  refine ⟨World.ownsRow_lit w #[.int .i64 v, .slice (some ⟨b, 0, none⟩) ws.length c] 1 hb (by unfold maxLen; omega) rfl, fun t ht => ?_⟩
  rw [List.mem_singleton] at ht
  subst ht
  exact h.below (bel1 _ _)
theorem RL.cells {w : World} {B g n c : Nat} {ts : List RT} (h : RL w B (.slice (some ⟨g, 0, none⟩) n c) ts) : ∀ j u, (rflat ts)[j]? = some u → w.cell? ((⟨g, 0, none⟩ : Addr).add j) = some u := h.1.cells rfl
theorem genS_len {os : List Int} (S : List Int → Bool) (ho : os.length ≤ 4) : ∀ k ws, (genS os S k ws).length ≤ 4 ^ k
  | 0, ws => by unfold genS; split <;> simp
  | k + 1, ws => by
    rw [genS, List.length_flatMap]
    have h : ∀ l : List Int, (l.map fun o => (genS os S k (ws ++ [o])).length).sum ≤ l.length * 4 ^ k := by
      intro l
      induction l with
      | nil => simp
      | cons o l ih =>
        rw [List.map_cons, List.sum_cons, List.length_cons, Nat.succ_mul]
        have := genS_len S ho k (ws ++ [o])
        omega
    refine Nat.le_trans (h os) ?_
    rw [Nat.pow_succ, Nat.mul_comm]
    exact Nat.mul_le_mul_left _ ho
/-- what is listed for the first options -/
def outS (os : List Int) (S : List Int → Bool) (k : Nat) (hs : List Int) (i : Nat) : List (List Int) := (os.take i).flatMap fun o => genS os S k (hs ++ [o])
theorem outS_zero (os : List Int) (S : List Int → Bool) (k : Nat) (hs : List Int) : outS os S k hs 0 = [] := by unfold outS; simp
theorem outS_succ {os : List Int} (S : List Int → Bool) (k : Nat) (hs : List Int) {i : Nat} (h : i < os.length) : outS os S k hs (i + 1) = outS os S k hs i ++ genS os S k (hs ++ [os[i]]) := by
  unfold outS
  rw [List.take_succ_eq_append_getElem h, List.flatMap_append]
  simp
theorem outS_all (os : List Int) (S : List Int → Bool) (k : Nat) (hs : List Int) : outS os S k hs os.length = genS os S (k + 1) hs := by unfold outS; rw [List.take_length, genS]
theorem outS_len {os : List Int} (S : List Int → Bool) (ho : os.length ≤ 4) (k : Nat) (hs : List Int) {i : Nat} (hi : i ≤ os.length) (hk : k ≤ 3) : (outS os S k hs i).length ≤ 256 := by
  have h : ∀ l : List Int, (l.flatMap fun o => genS os S k (hs ++ [o])).length ≤ l.length * 64 := by
    intro l
    induction l with
    | nil => simp
    | cons o l ih =>
      rw [List.flatMap_cons, List.length_append, List.length_cons, Nat.succ_mul]
      have h1 := genS_len S ho k (hs ++ [o])
      have h2 : 4 ^ k ≤ 4 ^ 3 := Nat.pow_le_pow_right (by omega) hk
      omega
  have := h (os.take i)
  rw [List.length_take] at this
  unfold outS
  omega
/-- rules of one number of voters -/
def withV (v : Int) (L : List (List Int)) : List (Int × List Int) := L.map fun ws => (v, ws)
theorem withV_app (v : Int) (L M : List (List Int)) : withV v (L ++ M) = withV v L ++ withV v M := by unfold withV; rw [List.map_append]
theorem keys_app (ts us : List RT) : keys (ts ++ us) = keys ts ++ keys us := by unfold keys; rw [List.map_append]
theorem keys_len {v : Int} {ts : List RT} {L : List (List Int)} (h : keys ts = withV v L) : ts.length = L.length := by
  simpa [keys, withV] using congrArg List.length h
def FromPost (v : Int) (L : List (List Int)) (w : World) (e : Ending) (w' : World) : Prop :=
  ∃ g cap ts, e = .returned (.slice (some ⟨g, 0, none⟩) ts.length cap) ∧ keys ts = withV v L ∧ RL w' w.heap.size (.slice (some ⟨g, 0, none⟩) ts.length cap) ts ∧ Below w.heap.size w w'
/-- what rulesFrom promises for k more issues -/
def Froms (n : Int) (a : Option Addr) (zs : List Int) (cap : Nat) (v : Int) (lo : Option Addr) (os : List Int) (capo k : Nat) : Prop :=
  ∀ (hs : List Int) (m : Nat) (ad : Addr) (capl : Nat) (w : World), Ints w a zs → Ints w lo os → Ints w (some ad) hs → hs.length = m → m + k = n.toNat → (∀ x ∈ hs, 0 ≤ x ∧ x ≤ 255) →
    Calls Try.prog 32 #[.agg #[.int .i64 n, .slice a zs.length cap], .int .i64 v, .slice lo os.length capo, .slice (some ad) m capl] w (FromPost v (genS os (fun ws => safeK zs ws v.toNat []) k hs) w)
set_option maxHeartbeats 4000000 in
set_option maxRecDepth 100000 in
theorem fromLeaf_any (n v : Int) (a lo : Option Addr) (cap capo : Nat) (zs os : List Int) (hn : 1 ≤ n ∧ n ≤ 4) (hv : 1 ≤ v ∧ v ≤ 2) (hz : ∀ x ∈ zs, 0 ≤ x ∧ x ≤ 255) (hzn : zs.length ≤ 1048576) : Froms n a zs cap v lo os capo 0 := by
  obtain ⟨i0, hi0, hz0, hz1, hz2⟩ := info_parts info_int
  intro hs m ad capl w hi hj hh hm hk hr
  have S0 := SV.new w n a zs cap lo os 25 hi hj
  have hE : ((m : Int) == n) = true := by rw [beq_iff_eq]; omega
  have hm0 : 0 < m := by omega
  have hm4 : m ≤ 4 := by omega
  have HVN : Hid (∀ W : World, Below w.heap.size w W → ∀ j u, (hs.map (Value.int .i64))[j]? = some u → W.cell? (ad.add j) = some u) := fun W hB => news_ints hh hB
  have HONE : Hid (∀ u ∈ hs.map (Value.int .i64), u.oneCell' = true) := fun u hu => by
    obtain ⟨x, _, rfl⟩ := List.mem_map.1 hu
    rfl
  have HM := hide hm
  have HR := hide hr
  have HZ := hide hz
  have HLN := hide (show (hs.length : Int) = n by omega)
  have HS0 := hide S0
  obtain ⟨⟨_, c0, c1⟩, _⟩ := S0.pair
  clear hi hj hh hm hr hz S0 hk
  go_enter Try.func32, Try.ntmps32
  go_wp2_with ((at_builtin; refine wpList_append_own _ rfl _ _ 23 rfl w.heap.size 3 i0 (.int .i64 0) 1 8 Try.underlying23 hi0 hz0 hz1 hz2 rfl (by decide) _ 0 [] rfl (own_emptyS1 w (.cells #[.int .i64 n, .slice a zs.length cap] 25) w.heap.size (Nat.le_refl _)) ad m capl (hs.map (Value.int .i64)) rfl (by have := HM.out; simp; omega) (HVN.out _ (bel2 w _ _)) HONE.out (by unfold maxLen; omega) (by omega) (by simp; omega) ?_))
  intro v5 w5 hown5 hgrow5 _
  obtain ⟨b5, c5, rfl, _, _⟩ := World.ownsRow.form hown5 (by omega)
  have hB5 : Below w.heap.size w w5 := (bel2 w _ _).grown hgrow5 (by simp; omega) (fun q hq => by simp [Value.ownBlock] at hq; omega)
  have ho5 : Owns w5 w.heap.size (.slice (some ⟨b5, 0, none⟩) hs.length c5) hs := by
    have := HM.out
    subst this
    unfold Owns; simpa using hown5
  rw [HM.out] at ho5
  have hb5 : Below (w.alloc (.cells #[.int .i64 n, .slice a zs.length cap] 25)).heap.size (w.alloc (.cells #[.int .i64 n, .slice a zs.length cap] 25)) w5 := (bel1 _ _).grown hgrow5 (by simp) (fun q hq => by simp [Value.ownBlock] at hq; simp; omega)
  have S5 := HS0.out.below hb5
  have HO5 := hide ho5
  have HB5 := hide hB5
  -- the rule in its variable, the empty list of votes behind it
  have B6 := bel1 w5 (.cells #[.int .i64 v, .slice (some ⟨b5, 0, none⟩) m c5] 34)
  have bx6 := Box.new w5 v (some ⟨b5, 0, none⟩) m c5 34
  have S6 := S5.below B6
  have ho6 := ho5.below B6
  have B7 := bel1 (w5.alloc (.cells #[.int .i64 v, .slice (some ⟨b5, 0, none⟩) m c5] 34)) (.cells #[] 3)
  have bx7 := bx6.below B7
  have S7 := S6.below B7
  have ho7 := ho6.below B7
  have HBX7 := hide bx7
  have HS7 := hide S7
  have HO7 := hide ho7
  have HB7 := hide (bnext (bnext hB5 B6) B7)
  obtain ⟨_, d0, d1⟩ := bx6
  obtain ⟨⟨_, c0, c1⟩, _⟩ := S6
  clear hown5 hgrow5 hb5 S5 ho5 hB5 B6 ho6 B7 S7 ho7 HS0 HVN HONE HO5 HB5 bx7
  cases hS : safeK zs hs v.toNat [] with
  | false =>
    have HSF := hide hS
    clear hS
    go_wp2_with fail
    have hcall := safeFrom_any n v a (some ⟨b5, 0, none⟩) cap c5 zs hs hn (by omega) HLN.out HZ.out HR.out hzn v.toNat [] 0 ⟨w5.heap.size + 1, 0, none⟩ 0 _ HS7.out.2.1 HO7.out.ints (fun h => by simp at h) rfl (by simp) (nil_range _)
    rw [HM.out, HSF.out] at hcall
    refine hcall.mono ?_
    rintro e w8 ⟨rfl, b8⟩
    have B8 := hide (bnext HB7.out b8)
    clear hcall b8
    go_wp2
    go_ret
    exact ⟨w8.heap.size, 0, [], rfl, by rw [genS, HSF.out]; rfl, RL.empty w8 (Nat.le_trans (Nat.le_refl _) B8.out.size), bnext B8.out (bel1 _ _)⟩
  | true =>
    have HSF := hide hS
    clear hS
    go_wp2_with fail
    have hcall := safeFrom_any n v a (some ⟨b5, 0, none⟩) cap c5 zs hs hn (by omega) HLN.out HZ.out HR.out hzn v.toNat [] 0 ⟨w5.heap.size + 1, 0, none⟩ 0 _ HS7.out.2.1 HO7.out.ints (fun h => by simp at h) rfl (by simp) (nil_range _)
    rw [HM.out, HSF.out] at hcall
    refine hcall.mono ?_
    rintro e w8 ⟨rfl, b8⟩
    have B8 := hide (bnext HB7.out b8)
    have HO8 := hide (HO7.out.below b8)
    have bx8 := HBX7.out.below b8
    obtain ⟨_, d0', d1'⟩ := bx8
    clear hcall b8 d0 d1 c0 c1
    go_wp2
    go_ret
    have hm := HM.out
    subst hm
    exact ⟨w8.heap.size, 1, [(v, hs, b5, c5)], rfl, by rw [genS, HSF.out]; rfl, RL.one HO8.out B8.out.size, bnext B8.out (bel1 _ _)⟩
set_option maxHeartbeats 8000000 in
set_option maxRecDepth 100000 in
theorem rulesFrom_any (n v : Int) (a lo : Option Addr) (cap capo : Nat) (zs os : List Int) (hn : 1 ≤ n ∧ n ≤ 4) (hv : 1 ≤ v ∧ v ≤ 2) (hz : ∀ x ∈ zs, 0 ≤ x ∧ x ≤ 255) (ho4 : os.length ≤ 4) (hor : ∀ x ∈ os, 0 ≤ x ∧ x ≤ 255) (hzn : zs.length ≤ 1048576) : ∀ k, Froms n a zs cap v lo os capo k
  | 0 => fromLeaf_any n v a lo cap capo zs os hn hv hz hzn
  | k + 1 => by
    have HIH := hide (rulesFrom_any n v a lo cap capo zs os hn hv hz ho4 hor hzn k)
    obtain ⟨i0, hi0, hz0, hz1, hz2⟩ := info_parts info_int
    obtain ⟨r0, hr0, hy0, hy1, hy2⟩ := info_parts info_rule
    intro hs m ad capl w hi hj hh hm hk hr
    have S0 := SV.new w n a zs cap lo os 25 hi hj
    have HOR := hide hor
    have HR0 := hide hr
    have hE : ((m : Int) == n) = false := by rw [beq_eq_false_iff_ne]; omega
    have hm3 : m ≤ 3 := by omega
    have hk3 : k ≤ 3 := by omega
    have HK0 := hide hk
    have HM := hide hm
    have HONE : Hid (∀ u ∈ hs.map (Value.int .i64), u.oneCell' = true) := fun u hu => by
      obtain ⟨x, _, rfl⟩ := List.mem_map.1 hu
      rfl
    have H0 := hide (hh.below (bel1 w (.cells #[.int .i64 n, .slice a zs.length cap] 25)))
    obtain ⟨S, hS⟩ : ∃ S : List Int → Bool, S = fun ws => safeK zs ws v.toNat [] := ⟨_, rfl⟩
    have HIH2 : Hid (∀ (hs : List Int) (m : Nat) (ad : Addr) (capl : Nat) (w : World), Ints w a zs → Ints w lo os → Ints w (some ad) hs → hs.length = m → m + k = n.toNat → (∀ x ∈ hs, 0 ≤ x ∧ x ≤ 255) →
      Calls Try.prog 32 #[.agg #[.int .i64 n, .slice a zs.length cap], .int .i64 v, .slice lo os.length capo, .slice (some ad) m capl] w (FromPost v (genS os S k hs) w)) := by rw [hS]; exact HIH.out
    rw [← hS]
    clear hS HIH
    obtain ⟨⟨_, c0, c1⟩, _⟩ := S0.pair
    have HS0 := hide S0
    obtain ⟨W1, hW1⟩ : ∃ W1 : World, W1 = w.alloc (.cells #[.int .i64 n, .slice a zs.length cap] 25) := ⟨_, rfl⟩
    have hsz1 : W1.heap.size = w.heap.size + 1 := by rw [hW1]; simp
    have HW1 := hide hW1
    have B1 := bel1 (w.alloc (.cells #[.int .i64 n, .slice a zs.length cap] 25)) (.cells #[] 34)
    have rl0 := RL.empty (B := w.heap.size + 1) (w.alloc (.cells #[.int .i64 n, .slice a zs.length cap] 25)) (by simp)
    simp only [World.size_alloc] at rl0
    rw [← hW1] at HS0 H0
    have B1' : Below W1.heap.size W1 ((w.alloc (.cells #[.int .i64 n, .slice a zs.length cap] 25)).alloc (.cells #[] 34)) := by rw [hW1]; exact B1
    clear hi hj hk hz hr hm hh hor S0 B1 hW1
    go_enter Try.func32, Try.ntmps32
    go_wp2_with fail
    go_loopw [10, 11] (fun u i wq => ∃ (j : Nat) (ts : List RT), j ≤ os.length ∧ i = .int .i64 j ∧ keys ts = withV v (outS os S k hs j) ∧ RL wq (w.heap.size + 1) u ts ∧ u ≠ .slice none 0 0 ∧ Below W1.heap.size W1 wq) (fun _ i _ => os.length - (intOf i).toNat)
    case atStart => exact ⟨0, [], Nat.zero_le _, rfl, by rw [outS_zero]; rfl, rl0, (fun e => by cases e), B1'⟩
    case round =>
      clear rl0 B1' c0 c1
      obtain ⟨j, ts, hj, rfl, hkeys, hrl, hnu, hbq⟩ := hrel
      have HNU := hide hnu
      clear hnu
      have hs1 := HS0.out.below hbq
      have hhs := H0.out.below hbq
      have HBQ := hide hbq
      have HKEYS := hide hkeys
      have HRL := hide hrl
      have hlen := keys_len hkeys
      have hol := outS_len S ho4 k hs hj hk3
      have hts : ts.length ≤ 256 := by omega
      have HS1 := hide hs1
      by_cases hlt : j < os.length
      · obtain ⟨bz, oz, rfl, hbl, hc⟩ := hs1.2.2.1 (by omega)
        have hck := hc j hlt
        rw [getD_lt hlt] at hck
        have HKP : Hid (∀ w5 : World, Below wr.heap.size wr w5 → w5.cell? ⟨w.heap.size, 0, none⟩ = some (.int .i64 n) ∧ w5.cell? ⟨w.heap.size, 1, none⟩ = some (.slice a zs.length cap) ∧ w5.cell? ⟨bz, oz + j, none⟩ = some (.int .i64 os[j])) := fun w5 hB => by
          obtain ⟨⟨_, q0, q1⟩, _⟩ := (hs1.below hB).pair
          exact ⟨q0, q1, (hB.cell (p := ⟨bz, oz + j, none⟩) hbl).trans hck⟩
        have HKW : Hid (∀ w5 : World, Below W1.heap.size W1 w5 → w5.cell? ⟨w.heap.size, 0, none⟩ = some (.int .i64 n) ∧ w5.cell? ⟨w.heap.size, 1, none⟩ = some (.slice a zs.length cap) ∧ w5.cell? ⟨bz, oz + j, none⟩ = some (.int .i64 os[j])) := fun w5 hB => by
          obtain ⟨⟨_, q0, q1⟩, _⟩ := (HS0.out.below hB).pair
          obtain ⟨bz', oz', e', _, hc'⟩ := (HS0.out.below hB).2.2.1 (by omega)
          cases e'
          have := hc' j hlt
          rw [getD_lt hlt] at this
          exact ⟨q0, q1, this⟩
        have HVN : Hid (∀ W : World, Below wr.drew.heap.size wr.drew W → ∀ j u, (hs.map (Value.int .i64))[j]? = some u → W.cell? (ad.add j) = some u) := fun W hB => news_ints hhs (bdrew hB)
        have HII : Hid (∀ W : World, Below wr.heap.size wr W → Ints W a zs) := fun W hB => hs1.2.1.below hB
        have HIJ : Hid (∀ W : World, Below wr.heap.size wr W → Ints W (some ⟨bz, oz, none⟩) os) := fun W hB => hs1.2.2.1.below hB
        have HHH : Hid (∀ W : World, Below wr.heap.size wr W → Ints W (some ad) hs) := fun W hB => hhs.below hB
        have HR := hide (mem_pushed (P := fun x => 0 ≤ x ∧ x ≤ 255) HR0.out (HOR.out _ (List.getElem_mem hlt)))
        have HLN : Hid ((hs ++ [os[j]]).length = m + 1) := by have := HM.out; show (hs ++ [os[j]]).length = m + 1; simp; omega
        have HK : Hid (m + 1 + k = n.toNat) := by have := HK0.out; show m + 1 + k = n.toNat; omega
        have hm0 := HM.out
        have hwr : w.heap.size + 1 ≤ wr.heap.size := by have := hbq.size; omega
        obtain ⟨⟨_, c0, c1⟩, _⟩ := hs1.pair
        have HOS := hide (outS_succ S k hs hlt)
        obtain ⟨z, hz⟩ : ∃ z, os[j] = z := ⟨_, rfl⟩
        rw [hz] at hck HKP HKW HR HLN HOS
        have hgl := genS_len S ho4 k (hs ++ [z])
        have h64 : 4 ^ k ≤ 4 ^ 3 := Nat.pow_le_pow_right (by omega) hk3
        clear hs1 hc hz hhs hrl hkeys hlen hol hbq
        go_upto_region 10 with fail
        go_region_held3 (fun w' => w'.cell? ⟨w.heap.size, 0, none⟩ = some (.int .i64 n) ∧ w'.cell? ⟨w.heap.size, 1, none⟩ = some (.slice a zs.length cap) ∧ w'.cell? ⟨bz, oz + j, none⟩ = some (.int .i64 z))
          (first | go_keep | exact HS9.out | exact HS8.out | exact HS7.out | exact HS5.out | exact HKP.out _ (bdrew' (Below.refl _ _)))
          (first
            | (refine step_append_own (by rfl) _ _ 23 (by rfl) wr.heap.size 3 i0 (.int .i64 0) 1 8 Try.underlying23 hi0 hz0 hz1 hz2 rfl (by decide) _ 0 [] (by rfl) (own_emptyS wr.drew wr.heap.size (Nat.le_refl _)) ad m capl (hs.map (Value.int .i64)) (by rfl) (by simp; omega) (HVN.out _ (bel1 _ _)) HONE.out (by unfold maxLen; omega) (by omega) (by simp) ?_; intro v5 w5 hown5 hgrow5 _; have F5 := hide (first5 hm0 (bel1 wr.drew (.cells #[] 3)) hown5 hgrow5 (by simp)); have HS5 := hide (HKP.out w5 F5.out.2); clear hown5 hgrow5)
            | (refine step_append_own (by rfl) _ _ 23 (by rfl) wr.heap.size 3 i0 (.int .i64 0) 1 8 Try.underlying23 hi0 hz0 hz1 hz2 rfl (by decide) _ 0 [] (by rfl) (own_drewS ((own_emptyS wr wr.heap.size (Nat.le_refl _)).alloc (.cells #[.int .i64 z] 3))) ad m capl (hs.map (Value.int .i64)) (by rfl) (by simp; omega) (HVN.out _ (bel_drewS (bel2 wr (.cells #[] 3) (.cells #[.int .i64 z] 3)))) HONE.out (by unfold maxLen; omega) (by omega) (by first | (simp; done) | (simp; omega)) ?_; intro v5 w5 hown5 hgrow5 _; have HLIT := hide (lit_kept2 hgrow5); have F5 := hide (first5 hm0 (bel_drewS (bel2 wr (.cells #[] 3) (.cells #[.int .i64 z] 3))) hown5 hgrow5 (by simp)); have HS5 := hide (HKP.out w5 F5.out.2); clear hown5 hgrow5)
            | (refine step_append_own (by rfl) _ _ 23 (by rfl) wr.heap.size 3 i0 (.int .i64 0) 1 8 Try.underlying23 hi0 hz0 hz1 hz2 rfl (by decide) _ 0 [] (by rfl) (own_drewS (own_emptyS1 wr (.cells #[.int .i64 z] 3) wr.heap.size (Nat.le_refl _))) ad m capl (hs.map (Value.int .i64)) (by rfl) (by simp; omega) (HVN.out _ (bel_drewS (bel2 wr (.cells #[.int .i64 z] 3) (.cells #[] 3)))) HONE.out (by unfold maxLen; omega) (by omega) (by first | (simp; done) | (simp; omega)) ?_; intro v5 w5 hown5 hgrow5 _; have HLIT := hide (lit_kept3 hgrow5); have F5 := hide (first5 hm0 (bel_drewS (bel2 wr (.cells #[.int .i64 z] 3) (.cells #[] 3))) hown5 hgrow5 (by simp)); have HS5 := hide (HKP.out w5 F5.out.2); clear hown5 hgrow5)
            | (refine step_append_own (by rfl) _ _ 23 (by rfl) wr.heap.size 3 i0 (.int .i64 0) 1 8 Try.underlying23 hi0 hz0 hz1 hz2 rfl (by decide) _ m (hs.map (Value.int .i64)) (by rfl) ((owns_row hm0 F5.out.1).alloc _) ⟨w5.heap.size, 0, none⟩ 1 1 [.int .i64 z] (by rfl) (by rfl) (World.news_of_block (cs := #[.int .i64 z]) (t := 3) (fr := (0, 0)) (heap_alloc_new w5 _)) (by simp [Value.oneCell']) (by unfold maxLen; omega) (by omega) (by have := F5.out.2.size; first | omega | (simp; omega)) ?_; intro v7 w7 hown7 hgrow7 _; obtain ⟨gg, cc, rfl, hgb, hgl⟩ := World.ownsRow.form hown7 (by omega); have F7 := hide (last7 hm0 F5.out (bel1 _ _) hown7 hgrow7); have HS7 := hide (HKP.out w7 F7.out.2); clear hown7 hgrow7 hgb hgl)
            | (refine step_append_own (by rfl) _ _ 23 (by rfl) wr.heap.size 3 i0 (.int .i64 0) 1 8 Try.underlying23 hi0 hz0 hz1 hz2 rfl (by decide) _ m (hs.map (Value.int .i64)) (by rfl) (owns_row hm0 F5.out.1) ⟨_, 0, none⟩ 1 1 [.int .i64 z] (by rfl) (by rfl) (World.news_of_block (cs := #[.int .i64 z]) (t := 3) (fr := (0, 0)) (HLIT.out)) (by simp [Value.oneCell']) (by unfold maxLen; omega) (by omega) (by have := F5.out.2.size; first | omega | (simp; omega)) ?_; intro v7 w7 hown7 hgrow7 _; obtain ⟨gg, cc, rfl, hgb, hgl⟩ := World.ownsRow.form hown7 (by omega); have F7 := hide (last7 hm0 F5.out (Below.refl _ _) hown7 hgrow7); have HS7 := hide (HKP.out w7 F7.out.2); clear hown7 hgrow7 hgb hgl)
            | (go_at_call 32; refine (HIH2.out (hs ++ [z]) (m + 1) ⟨gg, 0, none⟩ cc w7 (HII.out w7 F7.out.2) (HIJ.out w7 F7.out.2) F7.out.1.ints HLN.out HK.out HR.out).mono ?_; rintro e w8 ⟨g8, c8, us, rfl, hk8, rl8, b8⟩; have hul : us.length ≤ 64 := (by have := keys_len hk8; omega); have B8 := hide (bnext F7.out.2 b8); have HS8 := hide (HKP.out w8 B8.out); have RL8 := hide rl8; have HK8 := hide hk8; have RLo := hide (HRL.out.below B8.out); have HW7 := hide (Nat.le_trans hwr F7.out.2.size); clear b8 rl8 hk8)
            | (refine step_append_own (by rfl) _ _ 28 (by rfl) (w.heap.size + 1) 34 r0 (.agg #[.int .i64 0, .slice none 0 0]) 2 32 Try.underlying28 hr0 hy0 hy1 hy2 rfl (by decide) _ ts.length (rflat ts) (by rfl) RLo.out.1 ⟨g8, 0, none⟩ us.length c8 (rflat us) (by rfl) (rflat_len us) RL8.out.cells (rflat_one us) (by unfold maxLen; omega) (by omega) (by have := B8.out.size; omega) ?_; intro v9 w9 hown9 hgrow9 hnn9; have HN9 : Hid (v9 ≠ .slice none 0 0) := fun e => HNU.out (hnn9.1 e).1; have RL9 := hide (RLo.out.append RL8.out HW7.out hown9 hgrow9); have B9 := hide ((bnext HBQ.out B8.out).grown hgrow9 (bnext HBQ.out B8.out).size (fun q hq => (by have := (RLo.out.1.lt q hq).1; omega))); have HS9 := hide (HKW.out w9 B9.out); clear hown9 hgrow9 hnn9))
        all_goals
          go_wp2
          go_roundw
          case rel => exact ⟨j + 1, ts ++ us, by omega, by go_num, by rw [keys_app, HKEYS.out, HK8.out, HOS.out, withV_app], RL9.out, HN9.out, B9.out⟩
          case measure => simp only [intOf]; omega
      · obtain rfl : j = os.length := by omega
        have e10 : ∃ gu cu, u10 = .slice (some ⟨gu, 0, none⟩) ts.length cu := by
          rcases ownsRow_forms hrl.1 with ⟨e, _⟩ | ⟨g, cap, e⟩
          · exact absurd e HNU.out
          · exact ⟨g, cap, e⟩
        obtain ⟨gu, cu, e10⟩ := e10
        obtain ⟨⟨_, c0, c1⟩, _⟩ := hs1.pair
        subst e10
        go_wp2
        go_ret
        exact ⟨gu, cu, ts, rfl, by rw [HKEYS.out, outS_all], HRL.out.le (by omega), (HW1.out ▸ bel1 w _ : Below w.heap.size w W1).trans (HBQ.out.mono (by omega))⟩
end Go.Proofs.Ytbmodiobgkmngaa

/- SfT: SafeRules in the model, whole. -/
namespace Go.Proofs.Ytbmodiobgkmngaa
open Go.RowKit Go.Joins

/-- what SafeRules lists -/
def sfB (n : Int) (zs : List Int) (v : Int) : Bool := vsB n zs && decide (1 ≤ v ∧ v ≤ 2)
def sfL (n : Int) (zs : List Int) (v : Int) : List (List Int) := if sfB n zs v = true then rulesL n zs v else []
theorem sfL_no {n v : Int} {zs : List Int} (h : sfB n zs v = false) : sfL n zs v = [] := if_neg (by rw [h]; decide)
theorem sfL_yes {n v : Int} {zs : List Int} (h : sfB n zs v = true) : sfL n zs v = rulesL n zs v := if_pos h
/-- lists of rules that a call gives -/
def GivesL (v : Int) (L : List (List Int)) (w : World) (e : Ending) (w' : World) : Prop :=
  ∃ vL ts, e = .returned vL ∧ keys ts = withV v L ∧ RL w' w.heap.size vL ts ∧ Below w.heap.size w w'
set_option maxHeartbeats 4000000 in
set_option maxRecDepth 100000 in
theorem specSafeRules_any (n v : Int) (a : Option Addr) (cap : Nat) (zs : List Int) (w : World) (hi : Ints w a zs) (hn : zs.length ≤ 1048576) :
    Calls Try.prog 8 #[.agg #[.int .i64 n, .slice a zs.length cap], .int .i64 v] w (GivesL v (sfL n zs v) w) := by
  have S0 := SV.new w n a zs cap none [] 25 hi (Ints.nil _ _)
  clear hi
  cases hs : vsB n zs with
  | false =>
    have HV := hide (sfL_no (v := v) (by unfold sfB; rw [hs]; rfl))
    go_enter Try.func8, Try.ntmps8
    go_wp2_with fail
    refine (validSpace_any _ _ _ _ _ S0.2.1 hn).mono ?_
    rintro e w1 ⟨rfl, hb⟩
    go_wp2
    go_ret
    exact ⟨_, [], rfl, by rw [HV.out]; rfl, RL.nil _ _, (S0.below hb).2.2.2⟩
  | true =>
    by_cases hv : 1 ≤ v ∧ v ≤ 2
    · have HL := hide (sfL_yes (n := n) (zs := zs) (v := v) (by unfold sfB; rw [hs, decide_eq_true hv]; rfl))
      have hV := valid_of hs
      have hn4 := hV.1
      have HZR : Hid (∀ x ∈ zs, 0 ≤ x ∧ x ≤ 255) := fun x hx => by have := valid_range hV x hx; omega
      obtain ⟨N, rfl⟩ : ∃ N : Nat, n = (N : Int) := ⟨n.toNat, by omega⟩
      have HSAME := hide (rules_same (v := v) hV (by omega))
      have hd : decide (1 ≤ v ∧ v ≤ 2) = true := decide_eq_true hv
      have hfl := fam_len (v := v)
      clear hV
      go_enter Try.func8, Try.ntmps8
      go_wp2_with fail
      refine (validSpace_any _ _ _ _ _ S0.2.1 hn).mono ?_
      rintro e w1 ⟨rfl, hb⟩
      rw [hs]
      have S1 := S0.below hb
      have HS := hide S1
      have SD := hide S1.drew
      clear S0 hb
      obtain ⟨⟨_, c0, c1⟩, _⟩ := S1
      go_wp2_with (first
        | (go_at_call 31; refine (inRange_any _ _ _ _).mono ?_; rintro e w' ⟨rfl, rfl⟩; rw [hd])
        | fail)
      go_region_held3 (fun w' => w'.cell? ⟨w.heap.size, 0, none⟩ = some (.int .i64 (N : Int)) ∧ w'.cell? ⟨w.heap.size, 1, none⟩ = some (.slice a zs.length cap))
        (first | go_keep | exact HS5.out | exact HS3.out | exact ⟨c0, c1⟩)
        (first
          | (go_at_call 33; refine (families_any v _ (by omega)).mono ?_; rintro e w3 ⟨go, co, rfl, own3, b3⟩; have S3 := hide (SD.out.below b3); have HS3 := hide (And.intro S3.out.1.2.1 S3.out.1.2.2); have H3 := hide own3.ints; clear b3 own3)
          | (go_at_call 33; refine (families_any v _ (by omega)).mono ?_; rintro e w3 ⟨go, co, rfl, own3, b3⟩; have S3 := hide ((SD.out.below (bel1 w1.drew (.cells #[] 3))).below b3); have HS3 := hide (And.intro S3.out.1.2.1 S3.out.1.2.2); have H3 := hide own3.ints; clear b3 own3)
          | (go_at_call 32; refine (rulesFrom_any (N : Int) v a (some ⟨go, 0, none⟩) cap co zs (famL v) hn4 hv HZR.out hfl.2 fam_range hn N [] 0 _ 0 _ (S3.out.2.1.below (bel1 w3 (.cells #[] 3))) (H3.out.below (bel1 w3 (.cells #[] 3))) (fun h => by simp at h) rfl (by simp) (nil_range _)).mono ?_; rintro e w5 ⟨g5, c5, ts, rfl, hk5, rl5, b5⟩; have B5 := hide (bnext (S3.out.below (bel1 w3 (.cells #[] 3))).2.2.2 b5); have HS5 := hide (And.intro ((S3.out.below (bel1 w3 (.cells #[] 3))).below b5).1.2.1 ((S3.out.below (bel1 w3 (.cells #[] 3))).below b5).1.2.2); have RL5 := hide (rl5.le (S3.out.below (bel1 w3 (.cells #[] 3))).2.2.2.size))
          | (go_at_call 32; refine (rulesFrom_any (N : Int) v a (some ⟨go, 0, none⟩) cap co zs (famL v) hn4 hv HZR.out hfl.2 fam_range hn N [] 0 _ 0 _ S3.out.2.1 H3.out (fun h => by simp at h) rfl (by simp) (nil_range _)).mono ?_; rintro e w5 ⟨g5, c5, ts, rfl, hk5, rl5, b5⟩; have B5 := hide (bnext S3.out.2.2.2 b5); have HS5 := hide (And.intro (S3.out.below b5).1.2.1 (S3.out.below b5).1.2.2); have RL5 := hide (rl5.le S3.out.2.2.2.size)))
      all_goals
        go_wp2
        go_ret
        exact ⟨_, ts, rfl, by rw [HL.out, hk5, HSAME.out], RL5.out, B5.out⟩
    · have HV := hide (sfL_no (n := n) (zs := zs) (v := v) (by unfold sfB; rw [decide_eq_false hv, Bool.and_false]))
      have hd : decide (1 ≤ v ∧ v ≤ 2) = false := decide_eq_false hv
      go_enter Try.func8, Try.ntmps8
      go_wp2_with fail
      refine (validSpace_any _ _ _ _ _ S0.2.1 hn).mono ?_
      rintro e w1 ⟨rfl, hb⟩
      rw [hs]
      go_wp2_with (first
        | (go_at_call 31; refine (inRange_any _ _ _ _).mono ?_; rintro e w' ⟨rfl, rfl⟩; rw [hd])
        | fail)
      go_ret
      exact ⟨_, [], rfl, by rw [HV.out]; rfl, RL.nil _ _, (S0.below hb).2.2.2⟩
end Go.Proofs.Ytbmodiobgkmngaa

/- SfI: SafeRules of the program: the search with its two labels. -/
namespace Go.Proofs.Ytbmodiobgkmngaa
open Go Go.RowKit Go.Joins

set_option maxHeartbeats 1000000 in
set_option maxRecDepth 100000 in
theorem cloneI_any (g n c : Nat) (xs : List Int) (w : World) (hx : Ints w (some ⟨g, 0, none⟩) xs) (hn : xs.length = n) (h0 : 0 < n) (h4 : n ≤ 4) :
    Calls Try.prog 28 #[.slice (some ⟨g, 0, none⟩) n c] w fun e w' => ∃ b c', e = .returned (.slice (some ⟨b, 0, none⟩) n c') ∧ Owns w' w.heap.size (.slice (some ⟨b, 0, none⟩) n c') xs ∧ Below w.heap.size w w' := by
  obtain ⟨i0, hi0, hz0, hz1, hz2⟩ := info_parts info_int
  have HVN : Hid (∀ W : World, Below w.heap.size w W → ∀ j u, (xs.map (Value.int .i64))[j]? = some u → W.cell? ((⟨g, 0, none⟩ : Addr).add j) = some u) := fun W hB => news_ints hx hB
  have HONE : Hid (∀ u ∈ xs.map (Value.int .i64), u.oneCell' = true) := fun u hu => by
    obtain ⟨x, _, rfl⟩ := List.mem_map.1 hu
    rfl
  have q22 : ∀ (w : World) (a : Option Addr) (n c n' c' : Nat), (binOp .eql 23 (.slice a n c) (.slice none n' c')).run Try.prog w = .ok (.bool a.isNone) w := fun w a n c n' c' => Lib.run_eql_slice_nil w _ _ a n c n' c' Try.underlying23
  have HN := hide hn
  clear hx hn
  go_enter Try.func28, Try.ntmps28
  go_wp2_with ((at_builtin; refine wpList_append_own _ rfl _ _ 23 rfl w.heap.size 3 i0 (.int .i64 0) 1 8 Try.underlying23 hi0 hz0 hz1 hz2 rfl (by decide) _ 0 [] rfl (own_emptyS w w.heap.size (Nat.le_refl _)) ⟨g, 0, none⟩ n c (xs.map (Value.int .i64)) rfl (by have := HN.out; simp; omega) (HVN.out _ (bel1 w _)) HONE.out (by unfold maxLen; omega) (by omega) (by simp) ?_))
  intro v5 w5 hown5 hgrow5 _
  obtain ⟨b5, c5, rfl, _, _⟩ := World.ownsRow.form hown5 (by omega)
  have ho5 : Owns w5 w.heap.size (.slice (some ⟨b5, 0, none⟩) n c5) xs := by
    have := HN.out
    subst this
    unfold Owns; simpa using hown5
  have hB5 := hide ((bel1 w _).grown hgrow5 (by simp) (fun q hq => by simp [Value.ownBlock] at hq; omega))
  have HO5 := hide ho5
  clear hown5 hgrow5 ho5
  go_wp2
  go_ret
  exact ⟨b5, c5, by simp, HO5.out, hB5.out⟩
theorem Ints.takeN {w : World} {b o : Nat} {zs : List Int} (h : Ints w (some ⟨b, o, none⟩) zs) (n : Nat) : Ints w (some ⟨b, o, none⟩) (zs.take n) := fun hz => by
  rw [List.length_take] at hz
  obtain ⟨b', o', e, hl, hc⟩ := h (by omega)
  cases e
  refine ⟨b, o, rfl, hl, fun k hk => ?_⟩
  rw [List.length_take] at hk
  have := hc k (by omega)
  rw [this]
  congr 2
  rw [List.getD_eq_getElem?_getD, List.getD_eq_getElem?_getD, List.getElem?_take_of_lt (by omega)]
/-- lists of rules that a call gives, each its own -/
def GivesO (v : Int) (L : List (List Int)) (w : World) (e : Ending) (w' : World) : Prop :=
  ∃ vL ts, e = .returned vL ∧ keys ts = withV v L ∧ RO w' w.heap.size vL ts ∧ (∀ t ∈ ts, t.2.1.length ≤ 4) ∧ Below w.heap.size w w'
theorem arr_at {pl : List Int} {j : Nat} (h : j < pl.length) : ((pl.map (Value.int .i64)).toArray)[j]? = some (.int .i64 (pl.getD j 0)) := by
  simp [List.getD_eq_getElem?_getD, h]
theorem arr_set (pl : List Int) (j : Nat) (x : Int) : ((pl.map (Value.int .i64)).toArray).setIfInBounds j (.int .i64 x) = ((pl.set j x).map (Value.int .i64)).toArray := by
  rw [List.map_set, List.setIfInBounds_toArray]
theorem getD_set {pl : List Int} {j i : Nat} {x : Int} (h : j < pl.length) : (pl.set j x).getD i 0 = if i = j then x else pl.getD i 0 := by
  rw [List.getD_eq_getElem?_getD, List.getElem?_set]
  by_cases e : j = i
  · subst e; rw [if_pos rfl, if_pos h, if_pos rfl]; rfl
  · rw [if_neg e, if_neg (fun e' => e e'.symm), ← List.getD_eq_getElem?_getD]
/-- what lies while the search runs: places, numbers, the list -/
def SfW (w4 : World) (GW N : Nat) (L : Value) (ts : List RT) (pl wl : List Int) (w : World) : Prop :=
  Below w4.heap.size w4 w ∧ w.heap[w4.heap.size]? = some (.cells (pl.map (Value.int .i64)).toArray 3 (0, 0)) ∧ w.heap[GW]? = some (.cells (wl.map (Value.int .i64)).toArray 3 (0, 0)) ∧ pl.length = N ∧ wl.length = N ∧ RO w (GW + 1) L ts ∧ w4.heap.size < GW
theorem SfW.below {w4 w w' : World} {GW N : Nat} {L : Value} {ts : List RT} {pl wl : List Int} (h : SfW w4 GW N L ts pl wl w) (hb : Below w.heap.size w w') : SfW w4 GW N L ts pl wl w' := by
  obtain ⟨h1, h2, h3, h4, h5, h6, h7⟩ := h
  exact ⟨bnext h1 hb, (hb.block _ (lt_of_block h2)).trans h2, (hb.block _ (lt_of_block h3)).trans h3, h4, h5, h6.below hb, h7⟩
theorem SfW.setP {w4 w : World} {GW N : Nat} {L : Value} {ts : List RT} {pl wl : List Int} (h : SfW w4 GW N L ts pl wl w) (i : Nat) (x : Int) : SfW w4 GW N L ts (pl.set i x) wl (w.setCell ⟨w4.heap.size, i, none⟩ (.int .i64 x)) := by
  obtain ⟨h1, h2, h3, h4, h5, h6, h7⟩ := h
  refine ⟨h1.setCell (p := ⟨w4.heap.size, i, none⟩) (Nat.le_refl _) _, ?_, ?_, by rw [List.length_set]; exact h4, h5, h6.other (gset1 w _ i _) (fun g e => by cases e; omega), h7⟩
  · rw [← arr_set]; exact block_setCell (i := i) h2 _
  · exact (Below.heap_setCell _ _ _ _ (by show GW ≠ w4.heap.size; omega)).trans h3
theorem SfW.setN {w4 w : World} {GW N : Nat} {L : Value} {ts : List RT} {pl wl : List Int} (h : SfW w4 GW N L ts pl wl w) (i : Nat) (x : Int) : SfW w4 GW N L ts pl (wl.set i x) (w.setCell ⟨GW, i, none⟩ (.int .i64 x)) := by
  obtain ⟨h1, h2, h3, h4, h5, h6, h7⟩ := h
  refine ⟨h1.setCell (p := ⟨GW, i, none⟩) (by show w4.heap.size ≤ GW; omega) _, ?_, ?_, h4, by rw [List.length_set]; exact h5, h6.other (gset1 w _ i _) (fun g e => by cases e; omega), h7⟩
  · exact (Below.heap_setCell _ _ _ _ (by show w4.heap.size ≠ GW; omega)).trans h2
  · rw [← arr_set]; exact block_setCell (i := i) h3 _
theorem SfW.cells {w4 w : World} {GW N : Nat} {L : Value} {ts : List RT} {pl wl : List Int} (h : SfW w4 GW N L ts pl wl w) (i : Nat) (hi : i < N) :
    w.cell? ⟨w4.heap.size, i, none⟩ = some (.int .i64 (pl.getD i 0)) ∧ w.frozen? ⟨w4.heap.size, i, none⟩ = false ∧ w.cell? ⟨GW, i, none⟩ = some (.int .i64 (wl.getD i 0)) ∧ w.frozen? ⟨GW, i, none⟩ = false := by
  obtain ⟨h1, h2, h3, h4, h5, h6, h7⟩ := h
  exact ⟨(cell_of_block h2 i).trans (arr_at (by omega)), unfrozen_of_block h2 i, (cell_of_block h3 i).trans (arr_at (by omega)), unfrozen_of_block h3 i⟩
theorem SfW.wins {w4 w : World} {GW N : Nat} {L : Value} {ts : List RT} {pl wl : List Int} (h : SfW w4 GW N L ts pl wl w) : Ints w (some ⟨GW, 0, none⟩) wl := fun _ =>
  ⟨GW, 0, rfl, lt_of_block h.2.2.1, fun k hk => by rw [Nat.zero_add]; exact (h.cells k (by have := h.2.2.2.2.1; omega)).2.2.1⟩
theorem SfW.push {w4 w w' : World} {GW N : Nat} {L L' : Value} {ts ts' : List RT} {pl wl : List Int} (h : SfW w4 GW N L ts pl wl w) (hg : w.grownBy w' L.ownBlock) (hro : RO w' (GW + 1) L' ts') : SfW w4 GW N L' ts' pl wl w' := by
  obtain ⟨h1, h2, h3, h4, h5, h6, h7⟩ := h
  have hge : ∀ k, L.ownBlock = some k → GW + 1 ≤ k := fun k hk => (h6.1.1.lt k hk).1
  refine ⟨h1.grown hg h1.size (fun k hk => by have := hge k hk; omega), (hg.block _ (lt_of_block h2) (fun e => by have := hge _ e.symm; omega)).trans h2, (hg.block _ (lt_of_block h3) (fun e => by have := hge _ e.symm; omega)).trans h3, h4, h5, hro, h7⟩
/-- what lay ahead of the search -/
def SfB (w0 w4 : World) (N : Nat) (a : Option Addr) (zs : List Int) (cap : Nat) (v : Int) (GH GO co : Nat) : Prop :=
  SV w0 (N : Int) a zs cap none [] w4 ∧ HdI w4 GH zs N N ∧ Owns w4 w0.heap.size (.slice (some ⟨GO, 0, none⟩) (famL v).length co) (famL v) ∧ w0.heap.size < w4.heap.size
/-- where the search stands -/
def SfP (N : Nat) (os : List Int) (j : Nat) (p : Nat → Nat) (pl wl : List Int) (ts : List RT) : Prop :=
  (∀ i, i ≤ j → pl.getD i 0 = (p i : Int)) ∧ (∀ i, i < j → wl.getD i 0 = os.getD (p i) 0) ∧ (∀ i, i ≤ j → p i < os.length) ∧ j < N ∧ ∀ t ∈ ts, t.2.1.length ≤ 4
theorem arr_gen (T : Array Value) : T = ((List.range T.size).map fun i => T.getD i undef).toArray := by
  refine Array.ext (by simp) fun i h1 h2 => ?_
  simp [Array.getD, h1]
theorem arr_88 {T : Array Value} (h : T.size = 88) : T = #[T.getD 0 undef, T.getD 1 undef, T.getD 2 undef, T.getD 3 undef, T.getD 4 undef, T.getD 5 undef, T.getD 6 undef, T.getD 7 undef, T.getD 8 undef, T.getD 9 undef, T.getD 10 undef, T.getD 11 undef, T.getD 12 undef, T.getD 13 undef, T.getD 14 undef, T.getD 15 undef, T.getD 16 undef, T.getD 17 undef, T.getD 18 undef, T.getD 19 undef, T.getD 20 undef, T.getD 21 undef, T.getD 22 undef, T.getD 23 undef, T.getD 24 undef, T.getD 25 undef, T.getD 26 undef, T.getD 27 undef, T.getD 28 undef, T.getD 29 undef, T.getD 30 undef, T.getD 31 undef, T.getD 32 undef, T.getD 33 undef, T.getD 34 undef, T.getD 35 undef, T.getD 36 undef, T.getD 37 undef, T.getD 38 undef, T.getD 39 undef, T.getD 40 undef, T.getD 41 undef, T.getD 42 undef, T.getD 43 undef, T.getD 44 undef, T.getD 45 undef, T.getD 46 undef, T.getD 47 undef, T.getD 48 undef, T.getD 49 undef, T.getD 50 undef, T.getD 51 undef, T.getD 52 undef, T.getD 53 undef, T.getD 54 undef, T.getD 55 undef, T.getD 56 undef, T.getD 57 undef, T.getD 58 undef, T.getD 59 undef, T.getD 60 undef, T.getD 61 undef, T.getD 62 undef, T.getD 63 undef, T.getD 64 undef, T.getD 65 undef, T.getD 66 undef, T.getD 67 undef, T.getD 68 undef, T.getD 69 undef, T.getD 70 undef, T.getD 71 undef, T.getD 72 undef, T.getD 73 undef, T.getD 74 undef, T.getD 75 undef, T.getD 76 undef, T.getD 77 undef, T.getD 78 undef, T.getD 79 undef, T.getD 80 undef, T.getD 81 undef, T.getD 82 undef, T.getD 83 undef, T.getD 84 undef, T.getD 85 undef, T.getD 86 undef, T.getD 87 undef] := by
  have e := arr_gen T
  rw [h] at e
  exact e
theorem fr_of {act : Act} {N : Nat} {a : Option Addr} {zs : List Int} {cap : Nat} {v : Int} {B GH GO co GP GW j q : Nat} {L : Value} (hs : act.tmps.size = 88) (hd : act.defers = [])
    (h0 : act.tmps.getD 0 undef = .agg #[.int .i64 (N : Int), .slice a zs.length cap]) (h1 : act.tmps.getD 1 undef = .int .i64 v) (h2 : act.tmps.getD 2 undef = .pointer (some ⟨B, 0, none⟩)) (h4 : act.tmps.getD 4 undef = .slice none 0 0)
    (h5 : act.tmps.getD 5 undef = .slice (some ⟨GH, 0, none⟩) N N) (h6 : act.tmps.getD 6 undef = .slice (some ⟨GO, 0, none⟩) q co) (h7 : act.tmps.getD 7 undef = .slice (some ⟨GP, 0, none⟩) N N) (h8 : act.tmps.getD 8 undef = .slice (some ⟨GW, 0, none⟩) N N)
    (h9 : act.tmps.getD 9 undef = L) (h10 : act.tmps.getD 10 undef = .int .i64 (j : Int)) :
    ∃ u : Nat → Value, act = { tmps := #[.agg #[.int .i64 (N : Int), .slice a zs.length cap], .int .i64 v, .pointer (some ⟨B, 0, none⟩), u 3, .slice none 0 0, .slice (some ⟨GH, 0, none⟩) N N, .slice (some ⟨GO, 0, none⟩) q co, .slice (some ⟨GP, 0, none⟩) N N, .slice (some ⟨GW, 0, none⟩) N N, L, .int .i64 (j : Int), u 11, u 12, u 13, u 14, u 15, u 16, u 17, u 18, u 19, u 20, u 21, u 22, u 23, u 24, u 25, u 26, u 27, u 28, u 29, u 30, u 31, u 32, u 33, u 34, u 35, u 36, u 37, u 38, u 39, u 40, u 41, u 42, u 43, u 44, u 45, u 46, u 47, u 48, u 49, u 50, u 51, u 52, u 53, u 54, u 55, u 56, u 57, u 58, u 59, u 60, u 61, u 62, u 63, u 64, u 65, u 66, u 67, u 68, u 69, u 70, u 71, u 72, u 73, u 74, u 75, u 76, u 77, u 78, u 79, u 80, u 81, u 82, u 83, u 84, u 85, u 86, u 87], defers := [] } := by
  refine ⟨fun i => act.tmps.getD i undef, ?_⟩
  obtain ⟨T, D⟩ := act
  simp only at hs hd h0 h1 h2 h4 h5 h6 h7 h8 h9 h10
  subst hd
  have e := arr_88 hs
  rw [h0, h1, h2, h4, h5, h6, h7, h8, h9, h10] at e
  exact congrArg (fun T => ({ tmps := T, defers := [] } : Act)) e

theorem SfP.next {N j : Nat} {os : List Int} {p : Nat → Nat} {pl wl : List Int} {ts : List RT} (h : SfP N os j p pl wl ts) (hl : pl.length = N) (hq : p j + 1 < os.length) : SfP N os j (putP p j (p j + 1)) (pl.set j ((p j : Int) + 1)) wl ts := by
  obtain ⟨h1, h2, h3, h4, h5⟩ := h
  refine ⟨fun i hi => ?_, fun i hi => ?_, fun i hi => ?_, h4, h5⟩
  · rw [getD_set (by omega)]
    by_cases e : i = j
    · subst e; rw [if_pos rfl, putP_at]; rfl
    · rw [if_neg e, putP_ne p _ e]; exact h1 i hi
  · rw [putP_ne p _ (by omega)]; exact h2 i hi
  · by_cases e : i = j
    · subst e; rw [putP_at]; exact hq
    · rw [putP_ne p _ e]; exact h3 i hi
theorem SfP.back {N j : Nat} {os : List Int} {p : Nat → Nat} {pl wl : List Int} {ts : List RT} (h : SfP N os (j + 1) p pl wl ts) (hl : pl.length = N) (x : Int) : SfP N os j p (pl.set (j + 1) x) wl ts := by
  obtain ⟨h1, h2, h3, h4, h5⟩ := h
  refine ⟨fun i hi => ?_, fun i hi => h2 i (by omega), fun i hi => h3 i (by omega), by omega, h5⟩
  rw [getD_set (by omega), if_neg (by omega)]
  exact h1 i (by omega)
theorem SfP.win {N j : Nat} {os : List Int} {p : Nat → Nat} {pl wl : List Int} {ts : List RT} (h : SfP N os j p pl wl ts) (hl : wl.length = N) : SfP N os j p pl (wl.set j (os.getD (p j) 0)) ts ∧ ∀ i, i < j + 1 → (wl.set j (os.getD (p j) 0)).getD i 0 = os.getD (p i) 0 := by
  obtain ⟨h1, h2, h3, h4, h5⟩ := h
  have key : ∀ i, i < j + 1 → (wl.set j (os.getD (p j) 0)).getD i 0 = os.getD (p i) 0 := fun i hi => by
    rw [getD_set (by omega)]
    by_cases e : i = j
    · subst e; rw [if_pos rfl]
    · rw [if_neg e]; exact h2 i (by omega)
  exact ⟨⟨h1, fun i hi => key i (by omega), h3, h4, h5⟩, key⟩
theorem SfP.deep {N j : Nat} {os : List Int} {p : Nat → Nat} {pl wl : List Int} {ts : List RT} (h : SfP N os j p pl wl ts) (hl : pl.length = N) (hj : j + 1 < N) (ho : 0 < os.length) (hw : ∀ i, i < j + 1 → wl.getD i 0 = os.getD (p i) 0) : SfP N os (j + 1) (putP p (j + 1) 0) (pl.set (j + 1) 0) wl ts := by
  obtain ⟨h1, h2, h3, h4, h5⟩ := h
  refine ⟨fun i hi => ?_, fun i hi => ?_, fun i hi => ?_, hj, h5⟩
  · rw [getD_set (by omega)]
    by_cases e : i = j + 1
    · subst e; rw [if_pos rfl, putP_at]; rfl
    · rw [if_neg e, putP_ne p _ e]; exact h1 i (by omega)
  · rw [putP_ne p _ (by omega)]; exact hw i hi
  · by_cases e : i = j + 1
    · subst e; rw [putP_at]; exact ho
    · rw [putP_ne p _ e]; exact h3 i (by omega)
theorem take_ws {os wl : List Int} {p : Nat → Nat} {k : Nat} (h : ∀ i, i < k → wl.getD i 0 = os.getD (p i) 0) (hk : k ≤ wl.length) : wl.take k = wsF os p k := by
  refine List.ext_getElem (by rw [List.length_take, wsF_len]; omega) fun i h1 h2 => ?_
  rw [wsF_len] at h2
  have := h i h2
  rw [getD_lt (by omega : i < wl.length)] at this
  have e : (wsF os p k)[i]'(by rw [wsF_len]; exact h2) = os.getD (p i) 0 := by simp [wsF]
  rw [List.getElem_take, e, this]
theorem RO.push {w w' : World} {B B' b c : Nat} {u v' : Value} {ts : List RT} {x : Int} {ws : List Int} (h : RO w B u ts) (ho : Owns w B' (.slice (some ⟨b, 0, none⟩) ws.length c) ws) (hf : ∀ t ∈ ts, t.2.2.1 ≠ b) (hB : B ≤ B')
    (hown : w'.ownsRow B 34 2 v' (ts.length + 1) (rflat ts ++ [.int .i64 x, .slice (some ⟨b, 0, none⟩) ws.length c])) (hg : w.grownBy w' u.ownBlock) : RO w' B v' (ts ++ [(x, ws, b, c)]) := by
  have h1 : RL w' B v' (ts ++ [(x, ws, b, c)]) := by
    refine ⟨by rw [rflat_app, List.length_append]; exact hown, fun t ht => ?_⟩
    rcases List.mem_append.1 ht with ht | ht
    · exact own_kept (h.1.2 t ht) hg fun k hk e => rl_ne h.1.1 (h.1.2 t ht) (by rw [hk]; simpa [Value.ownBlock] using e.symm)
    · rw [List.mem_singleton] at ht
      subst ht
      exact (own_kept ho hg fun k hk e => rl_ne h.1.1 ho (by rw [hk]; simpa [Value.ownBlock] using e.symm)).le hB
  refine ⟨h1, ?_, fun t ht => rl_ne h1.1 (h1.2 t ht)⟩
  rw [List.map_append]
  refine List.nodup_append.2 ⟨h.2.1, by simp, fun y hy z hz => ?_⟩
  obtain ⟨t, ht, rfl⟩ := List.mem_map.1 hy
  simp only [List.map_cons, List.map_nil, List.mem_singleton] at hz
  rw [hz]
  exact hf t ht
theorem hd_range {n : Int} {zs : List Int} (hV : Valid n zs) (j : Nat) : ∀ x ∈ hdL zs j, 0 ≤ x ∧ x ≤ 255 := fun x hx => by
  obtain ⟨z, hz, rfl⟩ := hd_mem.1 hx
  have := valid_range hV z hz
  have h2 := Nat.mod_le z.toNat (2 ^ (j + 1))
  unfold lowI
  omega
theorem hd_len {zs : List Int} (j : Nat) : (hdL zs j).length ≤ zs.length := by
  unfold hdL
  refine Nat.le_trans (unq_len _) ?_
  rw [List.length_map]; exact Nat.le_refl _
theorem hd_pos {n : Int} {zs : List Int} (hV : Valid n zs) (j : Nat) : 0 < (hdL zs j).length := by
  have h0 := hV.2.1
  have : lowI j zs[0] ∈ hdL zs j := hd_mem.2 ⟨zs[0], List.getElem_mem (by omega), rfl⟩
  exact List.length_pos_of_mem this
theorem rules_len {N : Nat} {zs : List Int} {v : Int} (hV : Valid (N : Int) zs) (hN : 1 ≤ N ∧ N ≤ 4) : (rulesL (N : Int) zs v).length ≤ 256 := by
  rw [← rules_same hV (by omega)]
  refine Nat.le_trans (genS_len _ fam_len.2 N []) ?_
  exact Nat.le_trans (Nat.pow_le_pow_right (by omega) hN.2) (by decide)
def SfJ0 (w0 : World) (N : Nat) (a : Option Addr) (zs : List Int) (cap : Nat) (v : Int) (m : Nat) (act : Act) (w : World) : Prop :=
  ∃ (u : Nat → Value) (GH GO co GW : Nat) (w4 : World) (L : Value) (j : Nat) (p : Nat → Nat) (ts : List RT) (LL : List (List Int)) (pl wl : List Int),
    act = { tmps := #[.agg #[.int .i64 (N : Int), .slice a zs.length cap], .int .i64 v, .pointer (some ⟨w0.heap.size, 0, none⟩), u 3, .slice none 0 0, .slice (some ⟨GH, 0, none⟩) N N, .slice (some ⟨GO, 0, none⟩) (famL v).length co, .slice (some ⟨w4.heap.size, 0, none⟩) N N, .slice (some ⟨GW, 0, none⟩) N N, L, .int .i64 (j : Int), u 11, u 12, u 13, u 14, u 15, u 16, u 17, u 18, u 19, u 20, u 21, u 22, u 23, u 24, u 25, u 26, u 27, u 28, u 29, u 30, u 31, u 32, u 33, u 34, u 35, u 36, u 37, u 38, u 39, u 40, u 41, u 42, u 43, u 44, u 45, u 46, u 47, u 48, u 49, u 50, u 51, u 52, u 53, u 54, u 55, u 56, u 57, u 58, u 59, u 60, u 61, u 62, u 63, u 64, u 65, u 66, u 67, u 68, u 69, u 70, u 71, u 72, u 73, u 74, u 75, u 76, u 77, u 78, u 79, u 80, u 81, u 82, u 83, u 84, u 85, u 86, u 87], defers := [] } ∧ SfB w0 w4 N a zs cap v GH GO co ∧ SfW w4 GW N L ts pl wl w ∧ SfP N (famL v) j p pl wl ts ∧ keys ts = withV v LL ∧ LL ++ tryF (famL v) (goodP zs v) N p j = rulesL (N : Int) zs v ∧ m = leftT p j
def SfJ1 (w0 : World) (N : Nat) (a : Option Addr) (zs : List Int) (cap : Nat) (v : Int) (m : Nat) (act : Act) (w : World) : Prop :=
  ∃ (u : Nat → Value) (GH GO co GW : Nat) (w4 : World) (L : Value) (j : Nat) (p : Nat → Nat) (ts : List RT) (LL : List (List Int)) (pl wl : List Int),
    act = { tmps := #[.agg #[.int .i64 (N : Int), .slice a zs.length cap], .int .i64 v, .pointer (some ⟨w0.heap.size, 0, none⟩), u 3, .slice none 0 0, .slice (some ⟨GH, 0, none⟩) N N, .slice (some ⟨GO, 0, none⟩) (famL v).length co, .slice (some ⟨w4.heap.size, 0, none⟩) N N, .slice (some ⟨GW, 0, none⟩) N N, L, .int .i64 (j : Int), u 11, u 12, u 13, u 14, u 15, u 16, u 17, u 18, u 19, u 20, u 21, u 22, u 23, u 24, u 25, u 26, u 27, u 28, u 29, u 30, u 31, u 32, u 33, u 34, u 35, u 36, u 37, u 38, u 39, u 40, u 41, u 42, u 43, u 44, u 45, u 46, u 47, u 48, u 49, u 50, u 51, u 52, u 53, u 54, u 55, u 56, u 57, u 58, u 59, u 60, u 61, u 62, u 63, u 64, u 65, u 66, u 67, u 68, u 69, u 70, u 71, u 72, u 73, u 74, u 75, u 76, u 77, u 78, u 79, u 80, u 81, u 82, u 83, u 84, u 85, u 86, u 87], defers := [] } ∧ SfB w0 w4 N a zs cap v GH GO co ∧ SfW w4 GW N L ts pl wl w ∧ SfP N (famL v) j p pl wl ts ∧ keys ts = withV v LL ∧ LL ++ upF (famL v) (goodP zs v) N p j = rulesL (N : Int) zs v ∧ m = leftB p j
theorem SfJ0.at {w0 w4 w : World} {act : Act} {N : Nat} {a : Option Addr} {zs : List Int} {cap : Nat} {v : Int} {GH GO co GW j : Nat} {L : Value} {p : Nat → Nat} {ts : List RT} {LL : List (List Int)} {pl wl : List Int} (hs : act.tmps.size = 88) (hd : act.defers = [])
    (h0 : act.tmps.getD 0 undef = .agg #[.int .i64 (N : Int), .slice a zs.length cap]) (h1 : act.tmps.getD 1 undef = .int .i64 v) (h2 : act.tmps.getD 2 undef = .pointer (some ⟨w0.heap.size, 0, none⟩)) (h4 : act.tmps.getD 4 undef = .slice none 0 0)
    (h5 : act.tmps.getD 5 undef = .slice (some ⟨GH, 0, none⟩) N N) (h6 : act.tmps.getD 6 undef = .slice (some ⟨GO, 0, none⟩) (famL v).length co) (h7 : act.tmps.getD 7 undef = .slice (some ⟨w4.heap.size, 0, none⟩) N N) (h8 : act.tmps.getD 8 undef = .slice (some ⟨GW, 0, none⟩) N N)
    (h9 : act.tmps.getD 9 undef = L) (h10 : act.tmps.getD 10 undef = .int .i64 (j : Int))
    (hB : SfB w0 w4 N a zs cap v GH GO co) (hW : SfW w4 GW N L ts pl wl w) (hP : SfP N (famL v) j p pl wl ts) (hK : keys ts = withV v LL) (hT : LL ++ tryF (famL v) (goodP zs v) N p j = rulesL (N : Int) zs v) :
    SfJ0 w0 N a zs cap v (leftT p j) act w := by
  obtain ⟨u, hu⟩ := fr_of hs hd h0 h1 h2 h4 h5 h6 h7 h8 h9 h10
  exact ⟨u, GH, GO, co, GW, w4, L, j, p, ts, LL, pl, wl, hu, hB, hW, hP, hK, hT, rfl⟩
theorem SfJ1.at {w0 w4 w : World} {act : Act} {N : Nat} {a : Option Addr} {zs : List Int} {cap : Nat} {v : Int} {GH GO co GW j : Nat} {L : Value} {p : Nat → Nat} {ts : List RT} {LL : List (List Int)} {pl wl : List Int} (hs : act.tmps.size = 88) (hd : act.defers = [])
    (h0 : act.tmps.getD 0 undef = .agg #[.int .i64 (N : Int), .slice a zs.length cap]) (h1 : act.tmps.getD 1 undef = .int .i64 v) (h2 : act.tmps.getD 2 undef = .pointer (some ⟨w0.heap.size, 0, none⟩)) (h4 : act.tmps.getD 4 undef = .slice none 0 0)
    (h5 : act.tmps.getD 5 undef = .slice (some ⟨GH, 0, none⟩) N N) (h6 : act.tmps.getD 6 undef = .slice (some ⟨GO, 0, none⟩) (famL v).length co) (h7 : act.tmps.getD 7 undef = .slice (some ⟨w4.heap.size, 0, none⟩) N N) (h8 : act.tmps.getD 8 undef = .slice (some ⟨GW, 0, none⟩) N N)
    (h9 : act.tmps.getD 9 undef = L) (h10 : act.tmps.getD 10 undef = .int .i64 (j : Int))
    (hB : SfB w0 w4 N a zs cap v GH GO co) (hW : SfW w4 GW N L ts pl wl w) (hP : SfP N (famL v) j p pl wl ts) (hK : keys ts = withV v LL) (hT : LL ++ upF (famL v) (goodP zs v) N p j = rulesL (N : Int) zs v) :
    SfJ1 w0 N a zs cap v (leftB p j) act w := by
  obtain ⟨u, hu⟩ := fr_of hs hd h0 h1 h2 h4 h5 h6 h7 h8 h9 h10
  exact ⟨u, GH, GO, co, GW, w4, L, j, p, ts, LL, pl, wl, hu, hB, hW, hP, hK, hT, rfl⟩
set_option maxHeartbeats 8000000 in
set_option maxRecDepth 100000 in
theorem implSafeIn_any (N : Nat) (v : Int) (a : Option Addr) (cap : Nat) (zs : List Int) (w : World) (hi : Ints w a zs) (hn : zs.length ≤ 1048576) (hs : vsB (N : Int) zs = true) (hv : 1 ≤ v ∧ v ≤ 2) :
    Calls Try.prog 6 #[.agg #[.int .i64 (N : Int), .slice a zs.length cap], .int .i64 v] w (GivesO v (rulesL (N : Int) zs v) w) := by
  obtain ⟨i0, hi0, hz0, hz1, hz2⟩ := info_parts info_int
  obtain ⟨r0, hr0, hy0, hy1, hy2⟩ := info_parts info_rule
  have S0 := SV.new w (N : Int) a zs cap none [] 25 hi (Ints.nil _ _)
  have HVS := hide hs
  have hV := valid_of hs
  have HV := hide hV
  have hN4 : 1 ≤ N ∧ N ≤ 4 := by have := hV.1; omega
  have HZR : Hid (∀ x ∈ zs, 0 ≤ x ∧ x ≤ 255) := fun x hx => by have := valid_range hV x hx; omega
  have hfl := fam_len (v := v)
  clear hs hV hi
  go_enter Try.func6, Try.ntmps6
  go_wp2
  refine wp_scope_two (J0 := SfJ0 w N a zs cap v) (J1 := SfJ1 w N a zs cap v) 3000 (by rfl) (by rfl) ?_ ?_ ?_
  · clear S0
    rintro m act wq ⟨u, GH, GO, co, GW, w4, L, j, p, ts, LL, pl, wl, rfl, hB, hW, hP, hK, hT, rfl⟩
    have hpl := hP.1
    have hjN := hP.2.2.2.1
    have hlen := hW.2.2.2.1
    have hc := hW.cells j hjN
    rw [hpl j (Nat.le_refl _)] at hc
    obtain ⟨c0, f0, _, _⟩ := hc
    have hxq := hP.2.2.1 j (Nat.le_refl _)
    have hx3 : p j ≤ 3 := by omega
    have hall : ∀ i, i ≤ j → p i ≤ 3 := fun i hi => by have := hP.2.2.1 i hi; omega
    have hW1 := hW.setP j ((p j : Int) + 1)
    have hc1 := hW1.cells j hjN
    rw [getD_set (by rw [hlen]; exact hjN), if_pos rfl] at hc1
    obtain ⟨c1, _, _, _⟩ := hc1
    have HW1 := hide hW1
    have HB := hide hB
    have HP := hide hP
    have HK := hide hK
    have HT := hide hT
    have HALL := hide hall
    have HPL := hide hlen
    clear hW hW1 hB hP hK hT hpl hall
    by_cases hlt : p j + 1 < (famL v).length
    · have hltI : ((p j : Int) + 1 < ((famL v).length : Int)) := by omega
      go_wp2
      go_step3
      refine ⟨_, left_next (by omega) HALL.out, SfJ0.at (w4 := w4) (GH := GH) (GO := GO) (co := co) (L := L) (j := j) (p := putP p j (p j + 1)) (ts := ts) (LL := LL) rfl rfl rfl rfl rfl rfl rfl rfl rfl rfl rfl rfl HB.out HW1.out (HP.out.next HPL.out hlt) HK.out ?_⟩
      rw [← up_next (famL v) (goodP zs v) N p j hlt]
      exact HT.out
    · have hltI : ¬ ((p j : Int) + 1 < ((famL v).length : Int)) := by omega
      have hdone := up_done (famL v) (goodP zs v) N p j (by omega)
      have HD := hide hdone
      clear hdone
      by_cases hj0 : 0 < j
      · obtain ⟨i, rfl⟩ : ∃ i, j = i + 1 := ⟨j - 1, by omega⟩
        have hj0I : (0 : Int) < ((i + 1 : Nat) : Int) := by omega
        go_wp2
        go_step3
        refine ⟨_, left_pop (by omega) HALL.out, SfJ1.at (w4 := w4) (GH := GH) (GO := GO) (co := co) (L := L) (j := i) (p := p) (ts := ts) (LL := LL) rfl rfl rfl rfl rfl rfl rfl rfl rfl rfl rfl (by go_num) HB.out HW1.out (HP.out.back HPL.out _) HK.out ?_⟩
        have ht := HT.out
        rw [HD.out, if_neg (by omega), Nat.add_sub_cancel] at ht
        exact ht
      · obtain rfl : j = 0 := by omega
        go_wp2
        go_ret
        have ht := HT.out
        rw [HD.out] at ht
        have ht' : LL = rulesL (N : Int) zs v := by simpa using ht
        exact ⟨L, ts, rfl, by rw [HK.out, ht'], ⟨HW1.out.2.2.2.2.2.1.1.le (by have := HW1.out.2.2.2.2.2.2; have := HB.out.2.2.2; omega), HW1.out.2.2.2.2.2.1.2⟩, HP.out.2.2.2.2, HB.out.1.2.2.2.trans (HW1.out.1.mono HB.out.1.2.2.2.size)⟩
  · intro hp1
    clear S0
    rintro m act wq ⟨u, GH, GO, co, GW, w4, L, j, p, ts, LL, pl, wl, rfl, hB, hW, hP, hK, hT, rfl⟩
    have hpl := hP.1
    have hjN := hP.2.2.2.1
    have hlen := hW.2.2.2.1
    have hlenw := hW.2.2.2.2.1
    have hc := hW.cells j hjN
    rw [hpl j (Nat.le_refl _)] at hc
    obtain ⟨c0, _, d0, g0⟩ := hc
    have hxq := hP.2.2.1 j (Nat.le_refl _)
    have hall : ∀ i, i ≤ j → p i ≤ 4 := fun i hi => by have := hP.2.2.1 i hi; omega
    -- the option
    obtain ⟨bo, oo, eo, hol, hoc⟩ := (hB.2.2.1.below hW.1).ints (by omega)
    cases eo
    have o0 := hoc (p j) hxq
    rw [Nat.zero_add] at o0
    obtain ⟨y, hy⟩ : ∃ y, (famL v).getD (p j) 0 = y := ⟨_, rfl⟩
    rw [hy] at o0
    have HY := hide hy
    -- its place in the head
    have hW1 := hW.setN j y
    obtain ⟨hP1, hkey⟩ := hP.win hlenw
    rw [hy] at hP1 hkey
    have htake := take_ws hkey (by rw [List.length_set]; omega)
    have hws : ((wl.set j y).take (j + 1)).length = j + 1 := by rw [List.length_take, List.length_set]; omega
    -- the head of judgments
    have hd := hB.2.1.below (hW1.1)
    obtain ⟨cs, hcs, hcz, hcell⟩ := hd
    obtain ⟨e1, vh, e2, oh⟩ := hcell j hjN
    obtain ⟨ah, ch, rfl, ih, _⟩ := oh.form
    have q0 := (cell_of_block hcs (j * 2)).trans e1
    have q1 := (cell_of_block hcs (j * 2 + 1)).trans e2
    have hGH := lt_of_block hcs
    -- the space
    obtain ⟨b0, _, _, hB0⟩ := hB.1.below hW1.1
    obtain ⟨_, s0, s1⟩ := b0
    have HW1 := hide hW1
    have HB := hide hB
    have HP1 := hide hP1
    have HKY := hide hkey
    have HK := hide hK
    have HT := hide hT
    have HALL := hide hall
    have HPL := hide hlen
    have HIH := hide ih
    have hiw : Ints (wq.setCell ⟨GW, j, none⟩ (.int .i64 y)) (some ⟨GW, 0, none⟩) ((wl.set j y).take (j + 1)) := hW1.wins.takeN _
    have HIW := hide hiw
    obtain ⟨ws, hwse⟩ : ∃ ws, (wl.set j y).take (j + 1) = ws := ⟨_, rfl⟩
    rw [hwse] at htake hws HIW
    obtain ⟨r, hr⟩ : ∃ r, goodP zs v ws = r := ⟨_, rfl⟩
    have hsafe : safeK (hdL zs j) ws v.toNat [] = r := by
      rw [← hr]; unfold goodP; rw [hws, Nat.add_sub_cancel]
    have hwr : ∀ x ∈ ws, 0 ≤ x ∧ x ≤ 255 := fun x hx => by
      rw [htake] at hx
      unfold wsF at hx
      obtain ⟨i, hi, rfl⟩ := List.mem_map.1 hx
      have h1 := List.mem_range.1 hi
      have h2 := hP.2.2.1 i (by omega)
      rw [getD_lt h2]
      exact fam_range _ (List.getElem_mem h2)
    have hr' : goodP zs v (wsF (famL v) p (j + 1)) = r := by rw [← htake]; exact hr
    have HCALL : Hid (∀ W : World, Below (wq.setCell ⟨GW, j, none⟩ (.int .i64 y)).heap.size (wq.setCell ⟨GW, j, none⟩ (.int .i64 y)) W → Calls Try.prog 27 #[.agg #[.int .i64 ((j : Int) + 1), .slice ah (hdL zs j).length ch], .agg #[.int .i64 v, .slice (some ⟨GW, 0, none⟩) (j + 1) N], .slice none 0 0] W fun e w' => e = .returned (.bool r) ∧ Below W.heap.size W w') := fun W hWb => by
      have hcall := staysIn_any ((j : Int) + 1) v ah (some ⟨GW, 0, none⟩) ch N (hdL zs j) ws (by omega) (by omega) (hd_range HV.out j) hwr (by have := hd_len (zs := zs) j; omega) v.toNat [] (.slice none 0 0) W.heap.size W (HIH.out.below hWb) (HIW.out.below hWb) (Low.of (HIH.out.below hWb) (hd_pos HV.out j)) (Low.of (HIW.out.below hWb) (by omega)) (World.ownsRow_nil _ _ _ _) (Nat.le_refl _) (by simp) (nil_range _)
      rw [hws, hsafe] at hcall
      refine hcall.mono ?_
      rintro e w' ⟨he, g2, _⟩
      exact ⟨he, none_below g2⟩
    have HR := hide hr'
    have HTK := hide htake
    have HWSE := hide hwse
    clear hW hW1 hB hP hP1 hkey hK hT hpl hall hcs hcell e1 e2 oh ih hiw hB0 htake hws hr hr' hsafe hwr hcz hwse hoc hy
    obtain ⟨w1, hw1⟩ : ∃ w1 : World, w1 = wq.setCell ⟨GW, j, none⟩ (.int .i64 y) := ⟨_, rfl⟩
    rw [← hw1] at HW1 HIH HIW HCALL q0 q1 s0 s1 hGH
    have hj1 : IntKind.i64.wrap ((j : Int) + 1) = (j : Int) + 1 := IntWalk.i64_in _ (by omega)
    have hjI : (j : Int) + 1 ≤ (N : Int) := by omega
    have hjI0 : (0 : Int) ≤ (j : Int) + 1 := by omega
    have hjI2 : ¬ ((N : Int) < (j : Int) + 1) := by omega
    have hjI3 : ¬ ((j : Int) + 1 < 0) := by omega
    go_wp2
    rw [← hw1]
    clear hw1
    go_region_held3 (fun W => W.cell? ⟨GH, j * 2, none⟩ = some (.int .i64 ((j : Int) + 1)) ∧ W.cell? ⟨GH, j * 2 + 1, none⟩ = some (.slice ah (hdL zs j).length ch)) (first | exact ⟨q0, q1⟩ | exact K1.out) ((go_at_call 27; (with_reducible refine (HCALL.out _ (by first | exact Below.refl _ _ | exact bdrew' (Below.refl _ _))).mono ?_); rintro e w5 ⟨rfl, b5⟩; have B5 : Hid (Below w1.heap.size w1 w5) := (by first | exact b5 | exact bdrew b5); have K1 : Hid (w5.cell? ⟨GH, j * 2, none⟩ = some (.int .i64 ((j : Int) + 1)) ∧ w5.cell? ⟨GH, j * 2 + 1, none⟩ = some (.slice ah (hdL zs j).length ch)) := ⟨(B5.out.cell (p := ⟨GH, j * 2, none⟩) hGH).trans q0, (B5.out.cell (p := ⟨GH, j * 2 + 1, none⟩) hGH).trans q1⟩; clear b5))
    all_goals
      have hW5 := HW1.out.below B5.out
      have HW5 := hide hW5
      obtain ⟨⟨_, s0', s1'⟩, _⟩ := (HB.out.1.below (HW1.out.1)).below B5.out
      clear q0 q1 s0 s1 o0 c0 d0 g0 HIH HIW HCALL HW1 hW5
      cases r with
      | false =>
        go_wp2
        go_step3
        refine (‹∀ (a : Act) (w : World), Code.wp Try.prog (Code.seq (Code.region 15 _ _) _) _ a w → _›) _ _ ?_
        refine wp_weaken (two_less (Nat.le_of_lt (left_back (by omega) HALL.out))) (hp1 (leftB p j) _ _ ?_)
        refine SfJ1.at (w4 := w4) (GH := GH) (GO := GO) (co := co) (L := L) (j := j) (p := p) (ts := ts) (LL := LL) rfl rfl rfl rfl rfl rfl rfl rfl rfl rfl rfl rfl HB.out HW5.out HP1.out HK.out ?_
        rw [← try_no (famL v) (goodP zs v) N p j HR.out]
        exact HT.out
      | true =>
        by_cases hj2 : j + 1 < N
        · have hj2I : (j : Int) + 1 < (N : Int) := by omega
          obtain ⟨c0, f0, _, _⟩ := HW5.out.cells (j + 1) hj2
          go_wp2
          go_step3
          refine ⟨_, left_deep (by omega) HALL.out, SfJ0.at (w4 := w4) (GH := GH) (GO := GO) (co := co) (L := L) (j := j + 1) (p := putP p (j + 1) 0) (ts := ts) (LL := LL) rfl rfl rfl rfl rfl rfl rfl rfl rfl rfl rfl (by go_num) HB.out (HW5.out.setP (j + 1) 0) (HP1.out.deep HPL.out hj2 (by omega) HKY.out) HK.out ?_⟩
          rw [← try_deep (famL v) (goodP zs v) N p j hj2 (by omega) HR.out]
          exact HT.out
        · have hj2I : ¬ ((j : Int) + 1 < (N : Int)) := by omega
          have hjN1 : j + 1 = N := by omega
          have hlw : (wl.set j y).length = N := by rw [List.length_set]; exact hlenw
          go_wp2_with fail
          refine (cloneI_any _ _ _ (wl.set j y) _ HW5.out.wins hlw (by omega) (by omega)).mono ?_
          rintro e w6 ⟨b6, c6, rfl, o6, b6b⟩
          have hW6 := HW5.out.below b6b
          have hsz6 : GW + 1 ≤ w5.heap.size := by have := lt_of_block HW5.out.2.2.1; omega
          have hlL := rules_len (v := v) HV.out hN4
          have hts : ts.length ≤ 256 := by
            have h1 := keys_len HK.out
            have h2 := congrArg List.length HT.out
            rw [List.length_append] at h2
            omega
          have hB7 := bel1 w6 (.cells #[.int .i64 v, .slice (some ⟨b6, 0, none⟩) N c6] 34)
          have hW7 := hW6.below hB7
          have o7 := o6.below hB7
          have HW7 := hide hW7
          have HO7 := hide o7
          have hfr : ∀ t ∈ ts, t.2.2.1 ≠ b6 := fun t ht e => by
            have h1 := own_lt (HW5.out.2.2.2.2.2.1.1.2 t ht) t.2.2.1 rfl
            have h2 := own_ge o6 b6 rfl
            omega
          have HFR := hide hfr
          clear o6 b6b hW6 hB7 hfr
          go_wp2_with ((at_builtin; refine wpList_append_own _ rfl _ _ 28 rfl (GW + 1) 34 r0 (.agg #[.int .i64 0, .slice none 0 0]) 2 32 Try.underlying28 hr0 hy0 hy1 hy2 rfl (by decide) L ts.length (rflat ts) rfl HW7.out.2.2.2.2.2.1.1.1 ⟨w6.heap.size, 0, none⟩ 1 1 [.int .i64 v, .slice (some ⟨b6, 0, none⟩) N c6] rfl rfl (World.news_of_block (cs := #[.int .i64 v, .slice (some ⟨b6, 0, none⟩) N c6]) (t := 34) (fr := (0, 0)) (heap_alloc_new w6 _)) (by intro x hx; simp at hx; rcases hx with rfl | rfl <;> rfl) (by unfold maxLen; omega) (by omega) (by have := HW7.out.1.size; have := lt_of_block HW7.out.2.2.1; omega) ?_))
          intro v7 w7 hown7 hgrow7 hnn7
          have hro := HW7.out.2.2.2.2.2.1.push (x := v) (ws := wl.set j y) (by rw [hlw]; exact HO7.out) HFR.out hsz6 (by rw [hlw]; exact hown7) hgrow7
          have HW8 := hide (HW7.out.push hgrow7 hro)
          have hwN : wl.set j y = wsF (famL v) p N := by
            have h1 := HTK.out
            rw [← HWSE.out, List.take_of_length_le (by omega), hjN1] at h1
            exact h1
          have HWN := hide hwN
          have hne7 : v7 ≠ .slice none 0 0 := hnn7
          obtain ⟨a7, c7, e7, _⟩ := hro.1.form
          clear hown7 hgrow7 hro hwN hnn7 hne7
          subst e7
          go_wp2
          go_step3
          refine (‹∀ (a : Act) (w : World), Code.wp Try.prog (Code.seq (Code.region 15 _ _) _) _ a w → _›) _ _ ?_
          refine wp_weaken (two_less (Nat.le_of_lt (left_back (by omega) HALL.out))) (hp1 (leftB p j) _ _ ?_)
          refine SfJ1.at (w4 := w4) (GH := GH) (GO := GO) (co := co) (j := j) (p := p) (ts := ts ++ [(v, wl.set j y, b6, c6)]) (LL := LL ++ [wl.set j y]) rfl rfl rfl rfl rfl rfl rfl rfl rfl rfl rfl rfl HB.out HW8.out ?_ ?_ ?_
          · refine ⟨HP1.out.1, HP1.out.2.1, HP1.out.2.2.1, HP1.out.2.2.2.1, fun t ht => ?_⟩
            rcases List.mem_append.1 ht with ht | ht
            · exact HP1.out.2.2.2.2 t ht
            · rw [List.mem_singleton] at ht
              subst ht
              show (wl.set j y).length ≤ 4
              omega
          · rw [keys_app, withV_app, HK.out]; rfl
          · have ht := HT.out
            rw [try_full (famL v) (goodP zs v) N p j hjN1 HR.out] at ht
            rw [HWN.out, List.append_assoc]
            exact ht
  · intro hp0
    go_wp2_with fail
    refine (implValidSpace_any _ _ _ _ _ S0.2.1 hn).mono ?_
    rintro e w1 ⟨rfl, hb⟩
    rw [HVS.out]
    have S1 := S0.below hb
    have HS1 := hide S1
    obtain ⟨⟨_, c0, c1⟩, _⟩ := S1
    clear S0 hb
    have hv1 : ¬ v < 1 := by omega
    have hv2 : ¬ 2 < v := by omega
    go_wp2_with fail
    refine (headsOf_any N a cap zs _ HS1.out.2.1 HV.out).mono ?_
    rintro e w2 ⟨GH, rfl, hd2, hgh, b2⟩
    have S2 := HS1.out.below b2
    have HS2 := hide S2
    have HD2 := hide hd2
    clear b2 hd2 c0 c1 HS1
    go_wp2_with fail
    refine (fairWins_any v _ (by omega)).mono ?_
    rintro e w3 ⟨GO, co, rfl, own3, b3⟩
    have S3 := HS2.out.below b3
    have HS3 := hide S3
    have HB : Hid (SfB w w3 N a zs cap v GH GO co) := ⟨S3, HD2.out.below b3, own3.le HS2.out.2.2.2.size, S3.1.1⟩
    obtain ⟨⟨_, c0, c1⟩, _⟩ := S3
    clear b3 own3 HS2 HD2
    go_wp2_with (at_make; refine wpList_make_full _ rfl _ _ 23 rfl w3.heap.size 3 i0 (.int .i64 0) 1 Try.underlying23 hi0 hz0 hz1 _ _ _ _ N rfl rfl (by first | omega | (simp; omega)) (by first | omega | (simp; omega)) ?b2 ?b3 (by simp) ?_)
    case b2 => rw [hz2]; omega
    case b3 => unfold maxLen; omega
    intro w4 hown4 hgrow4
    rw [madeInts] at hown4
    have hb4 := own_blkZ hown4
    have B4 := (Below.refl w3.heap.size w3).grown hgrow4 (Nat.le_refl _) (fun q hq => by cases hq)
    have hsz4 : w3.heap.size + 1 ≤ w4.heap.size := lt_of_block hb4
    obtain ⟨⟨_, c0', c1'⟩, _⟩ := HS3.out.below B4
    clear hown4 hgrow4 c0 c1
    have HB4 := hide B4
    have HBL4 := hide hb4
    clear B4 hb4
    go_wp2_with (at_make; refine wpList_make_full _ rfl _ _ 23 rfl w4.heap.size 3 i0 (.int .i64 0) 1 Try.underlying23 hi0 hz0 hz1 _ _ _ _ N rfl rfl (by first | omega | (simp; omega)) (by first | omega | (simp; omega)) ?b5 ?b6 (by simp) ?_)
    case b5 => rw [hz2]; omega
    case b6 => unfold maxLen; omega
    intro w5 hown5 hgrow5
    rw [madeInts] at hown5
    have hb5 := own_blkZ hown5
    have B5 := (Below.refl w4.heap.size w4).grown hgrow5 (Nat.le_refl _) (fun q hq => by cases hq)
    have HW : Hid (SfW w3 w4.heap.size N (.slice none 0 0) [] (List.replicate N 0) (List.replicate N 0) w5) := ⟨HB4.out.trans (B5.mono HB4.out.size), (B5.block _ (by omega)).trans HBL4.out, hb5, by simp, by simp, RO.nil _ _, by omega⟩
    have HP : Hid (SfP N (famL v) 0 (fun _ => 0) (List.replicate N 0) (List.replicate N 0) []) := ⟨fun i hi => by
      rw [List.getD_eq_getElem?_getD, List.getElem?_replicate]
      split <;> rfl, fun i hi => by omega, fun i hi => (by show 0 < (famL v).length; omega), by omega, fun t ht => by cases ht⟩
    have HT := hide (try_first (famL v) (goodP zs v) N (by omega) (by omega))
    have HLEFT : Hid (leftT (fun _ => 0) 0 ≤ 3000) := Nat.sub_le _ _
    clear hown5 hgrow5 hb5 B5 c0' c1'
    go_wp2
    go_step3
    refine (‹∀ (a : Act) (w : World), Code.wp Try.prog (Code.seq (Code.region 9 _ _) _) _ a w → _›) _ _ ?_
    refine wp_weaken (two_less HLEFT.out) (hp0 (leftT (fun _ => 0) 0) _ _ ?_)
    refine SfJ0.at (w4 := w3) (GW := w4.heap.size) (GH := GH) (GO := GO) (co := co) (L := .slice none 0 0) (j := 0) (p := fun _ => 0) (ts := []) (LL := []) rfl rfl rfl rfl rfl rfl rfl rfl rfl rfl rfl rfl HB.out HW.out HP.out rfl ?_
    rw [List.nil_append, HT.out]
    unfold rulesL
    rw [Int.toNat_natCast]
set_option maxHeartbeats 2000000 in
theorem implSafeRules_any (n v : Int) (a : Option Addr) (cap : Nat) (zs : List Int) (w : World) (hi : Ints w a zs) (hn : zs.length ≤ 1048576) :
    Calls Try.prog 6 #[.agg #[.int .i64 n, .slice a zs.length cap], .int .i64 v] w (GivesO v (sfL n zs v) w) := by
  cases hs : vsB n zs with
  | false =>
    have S0 := SV.new w n a zs cap none [] 25 hi (Ints.nil _ _)
    have HV := hide (sfL_no (v := v) (by unfold sfB; rw [hs]; rfl))
    have HVS := hide hs
    clear hi hs
    go_enter Try.func6, Try.ntmps6
    go_wp2
    go_step3
    go_wp2_with fail
    refine (implValidSpace_any _ _ _ _ _ S0.2.1 hn).mono ?_
    rintro e w1 ⟨rfl, hb⟩
    rw [HVS.out]
    go_wp2
    rw [Exit.noGoto_ret]
    go_ret
    exact ⟨_, [], rfl, by rw [HV.out]; rfl, RO.nil _ _, (fun t ht => by cases ht), (S0.below hb).2.2.2⟩
  | true =>
    by_cases hv : 1 ≤ v ∧ v ≤ 2
    · have hV := valid_of hs
      obtain ⟨N, rfl⟩ : ∃ N : Nat, n = (N : Int) := ⟨n.toNat, by have := hV.1; omega⟩
      rw [sfL_yes (by unfold sfB; rw [hs, decide_eq_true hv]; rfl)]
      exact implSafeIn_any N v a cap zs w hi hn hs hv
    · have S0 := SV.new w n a zs cap none [] 25 hi (Ints.nil _ _)
      have HV := hide (sfL_no (n := n) (zs := zs) (v := v) (by unfold sfB; rw [decide_eq_false hv, Bool.and_false]))
      have HVS := hide hs
      clear hi hs
      rcases Int.lt_or_le v 1 with h1 | h1
      · go_enter Try.func6, Try.ntmps6
        go_wp2
        go_step3
        go_wp2_with fail
        refine (implValidSpace_any _ _ _ _ _ S0.2.1 hn).mono ?_
        rintro e w1 ⟨rfl, hb⟩
        rw [HVS.out]
        go_wp2
        rw [Exit.noGoto_ret]
        go_ret
        exact ⟨_, [], rfl, by rw [HV.out]; rfl, RO.nil _ _, (fun t ht => by cases ht), (S0.below hb).2.2.2⟩
      · have h2 : 2 < v := by omega
        have h1' : ¬ v < 1 := by omega
        go_enter Try.func6, Try.ntmps6
        go_wp2
        go_step3
        go_wp2_with fail
        refine (implValidSpace_any _ _ _ _ _ S0.2.1 hn).mono ?_
        rintro e w1 ⟨rfl, hb⟩
        rw [HVS.out]
        go_wp2
        rw [Exit.noGoto_ret]
        go_ret
        exact ⟨_, [], rfl, by rw [HV.out]; rfl, RO.nil _ _, (fun t ht => by cases ht), (S0.below hb).2.2.2⟩
end Go.Proofs.Ytbmodiobgkmngaa
