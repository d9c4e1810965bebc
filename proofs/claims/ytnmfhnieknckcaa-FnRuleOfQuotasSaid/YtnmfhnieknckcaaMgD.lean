/- Texts of this seat one behind the other: QuotaV, QsM, QsI, QsS, RqT, RqI, RqS. Conditions: none. -/
import Derived.Test.YtnmfhnieknckcaaVotes
import Derived.Test.YtnmfhnieknckcaaMgA
import Derived.Test.YtnmfhnieknckcaaTabF
import Derived.Deep.RegionWith
import Derived.Deep.QuietTactic
import Derived.BigQuiet
import Derived.Deep.DeepCutAuto
import Derived.Deep.RegionHeld3

/- QuotaV: Quotas: their check, in the model and in the program. -/
namespace Go.Proofs.Ytnmfhnieknckcaa
open Go.RowKit Go.Joins

/-- a quota is one of 1 to k -/
def qOut (k q : Int) : Bool := decide (q < 1 ∨ k < q)
theorem qOut_no {k q : Int} (h : 1 ≤ q ∧ q ≤ k) : qOut k q = false := by simp [qOut]; omega
theorem qOut_yes {k q : Int} (h : ¬ (1 ≤ q ∧ q ≤ k)) : qOut k q = true := by simp [qOut]; omega
def QuotasOk (n k : Int) (qs : List Int) : Prop := (∀ j, j < qs.length → qOut k (qs.getD j 0) = false) ∧ (qs.length : Int) = n
instance (n k : Int) (qs : List Int) : Decidable (QuotasOk n k qs) := by unfold QuotasOk; infer_instance
def quotasB (n k : Int) (qs : List Int) : Bool := decide (QuotasOk n k qs)
theorem quotasB_true {n k : Int} {qs : List Int} (h : QuotasOk n k qs) : quotasB n k qs = true := by simpa [quotasB] using h
theorem quotasB_false {n k : Int} {qs : List Int} (h : ¬ QuotasOk n k qs) : quotasB n k qs = false := by simpa [quotasB] using h
theorem quotas_of {n k : Int} {qs : List Int} (h : quotasB n k qs = true) : QuotasOk n k qs := by simpa [quotasB] using h

set_option maxHeartbeats 1000000 in
theorem validQuotas_any (n k : Int) (a l : Option Addr) (cap capl len : Nat) (qs : List Int) (w : World) (hj : Ints w l qs) (hm : qs.length ≤ 1048576) :
    Calls Try.prog 81 #[.agg #[.int .i64 n, .slice a len cap], .int .i64 k, .slice l qs.length capl] w fun e w' => e = .returned (.bool (quotasB n k qs)) ∧ Below w.heap.size w w' := by
  have bx := Box.new w n a len cap 25
  have il := hj.below (bel1 w (.cells #[.int .i64 n, .slice a len cap] 25))
  clear hj
  obtain ⟨_, c0, c1⟩ := bx
  go_enter Try.func81, Try.ntmps81
  go_wp2_with fail
  go_loop [7] (fun i => ∃ j : Nat, j ≤ qs.length ∧ i = .int .i64 j ∧ (∀ t, t < j → qOut k (qs.getD t 0) = false)) (fun i => qs.length - (intOf i).toNat)
  case atStart => exact ⟨0, Nat.zero_le _, rfl, fun t ht => by omega⟩
  case round =>
    obtain ⟨j, hj, rfl, hall⟩ := hrel
    have HA := hide hall
    clear hall
    by_cases hlt : j < qs.length
    · obtain ⟨b, off, rfl, hbl, hc⟩ := il (by omega)
      have hck := hc j hlt
      rw [getD_lt hlt] at hck
      clear hc il
      by_cases he : 1 ≤ qs[j] ∧ qs[j] ≤ k
      · have HE := hide he
        clear he
        go_wp2_with (go_at_call 80; refine (inRange_yes _ _ _ _ HE.out).mono ?_; rintro e w' ⟨rfl, rfl⟩)
        go_round
        case rel => exact ⟨j + 1, by omega, by go_num, fun t ht => by
          rcases Nat.lt_or_ge t j with h | h
          · exact HA.out t h
          · obtain rfl : t = j := by omega
            rw [getD_lt hlt]
            exact qOut_no HE.out⟩
        case measure => simp only [intOf]; omega
      · have HN := hide (quotasB_false (n := n) (fun h : QuotasOk n k qs => by have := h.1 j hlt; rw [getD_lt hlt, qOut_yes he] at this; cases this))
        have HE := hide he
        clear he
        go_wp2_with (go_at_call 80; refine (inRange_no _ _ _ _ HE.out).mono ?_; rintro e w' ⟨rfl, rfl⟩)
        go_ret
        exact ⟨ret_bool HN.out.symm, bel1 w _⟩
    · obtain rfl : j = qs.length := by omega
      by_cases he : (qs.length : Int) = n
      · have hE : ((qs.length : Int) == n) = true := by simpa using he
        have HN := hide (quotasB_true (⟨HA.out, he⟩ : QuotasOk n k qs))
        clear he
        go_wp2
        go_ret
        exact ⟨ret_bool HN.out.symm, bel1 w _⟩
      · have hE : ((qs.length : Int) == n) = false := by simpa using he
        have HN := hide (quotasB_false (fun h : QuotasOk n k qs => he h.2))
        clear he
        go_wp2
        go_ret
        exact ⟨ret_bool HN.out.symm, bel1 w _⟩

set_option maxHeartbeats 1000000 in
theorem indexFuncQ_any (p : Int → Bool) (a : Option Addr) (cap g : Nat) (zs : List Int) (w : World) (hi : Ints w a zs) (hn : zs.length ≤ 1048576)
    (hf : ∀ (x : Int) (w' : World), x ∈ zs → Below w.heap.size w w' → Calls Try.prog 120 #[.int .i64 x, .pointer (some ⟨g, 0, none⟩)] w' fun e w'' => e = .returned (.bool (p x)) ∧ Below w'.heap.size w' w'') :
    Calls Try.prog 105 #[.slice a zs.length cap, .func (.func 120) #[] #[.pointer (some ⟨g, 0, none⟩)]] w (IdxGPost p zs w) := by
  have HF := hide hf
  clear hf
  go_enter Try.func105, Try.ntmps105
  go_wp2_with fail
  go_loopw [8] (fun i wr => ∃ k : Nat, k ≤ zs.length ∧ i = .int .i64 k ∧ (∀ j, j < k → p (zs.getD j 0) = false) ∧ Below w.heap.size w wr) (fun i _ => zs.length - (intOf i).toNat)
  case atStart => exact ⟨0, Nat.zero_le _, rfl, fun j hj => by omega, Below.refl _ _⟩
  case round =>
    obtain ⟨k, hk, rfl, hall, hb⟩ := hrel
    have HA := hide hall
    clear hall
    by_cases hlt : k < zs.length
    · obtain ⟨bb, off, rfl, hbl, hc⟩ := (hi.below hb) (by omega)
      have hck := hc k hlt
      rw [getD_lt hlt] at hck
      clear hc hi
      by_cases he : p zs[k] = true
      · have HF2 := hide (any_true hlt he)
        have HE := hide he
        clear he
        go_wp2_with fail
        refine (HF.out _ _ (mem_of_at hlt) hb).mono ?_
        rintro e w1 ⟨rfl, h1⟩
        have he := HE.out
        go_wp2
        go_ret
        exact ⟨k, .inl ⟨HF2.out, by omega⟩, by omega, rfl, bnext hb h1⟩
      · have he : p zs[k] = false := by simpa using he
        have HE := hide he
        clear he
        go_wp2_with fail
        refine (HF.out _ _ (mem_of_at hlt) hb).mono ?_
        rintro e w1 ⟨rfl, h1⟩
        have he := HE.out
        go_wp2
        go_roundw
        case rel => exact ⟨k + 1, by omega, by go_num, fun j hj => by
          rcases Nat.lt_or_ge j k with h | h
          · exact HA.out j h
          · obtain rfl : j = k := by omega
            rw [getD_lt hlt]
            exact HE.out, bnext hb h1⟩
        case measure => simp only [intOf]; omega
    · obtain rfl : k = zs.length := by omega
      go_wp2
      go_ret
      exact ⟨-1, .inr ⟨any_false HA.out, rfl⟩, by omega, rfl, hb⟩

set_option maxHeartbeats 1000000 in
theorem containsFuncQ_any (p : Int → Bool) (a : Option Addr) (cap g : Nat) (zs : List Int) (w : World) (hi : Ints w a zs) (hn : zs.length ≤ 1048576)
    (hf : ∀ (x : Int) (w' : World), x ∈ zs → Below w.heap.size w w' → Calls Try.prog 120 #[.int .i64 x, .pointer (some ⟨g, 0, none⟩)] w' fun e w'' => e = .returned (.bool (p x)) ∧ Below w'.heap.size w' w'') :
    Calls Try.prog 54 #[.slice a zs.length cap, .func (.func 120) #[] #[.pointer (some ⟨g, 0, none⟩)]] w fun e w' => e = .returned (.bool (zs.any p)) ∧ Below w.heap.size w w' := by
  have HF := hide hf
  clear hf
  by_cases hm : zs.any p = true
  · have HM := hide hm
    clear hm
    go_enter Try.func54, Try.ntmps54
    go_wp2_with fail
    refine (indexFuncQ_any p _ _ _ _ _ hi hn HF.out).mono ?_
    rintro e w' ⟨r, hr, hr2, rfl, hb⟩
    have h0 : 0 ≤ r := by
      rcases hr with ⟨_, h⟩ | ⟨h, _⟩
      · exact h
      · rw [HM.out] at h; cases h
    clear hr
    go_wp2
    go_ret
    exact ⟨ret_bool HM.out.symm, hb⟩
  · have hm : zs.any p = false := by simpa using hm
    have HM := hide hm
    clear hm
    go_enter Try.func54, Try.ntmps54
    go_wp2_with fail
    refine (indexFuncQ_any p _ _ _ _ _ hi hn HF.out).mono ?_
    rintro e w' ⟨r, hr, hr2, rfl, hb⟩
    have h0 : r < 0 := by
      rcases hr with ⟨h, _⟩ | ⟨_, h⟩
      · rw [HM.out] at h; cases h
      · omega
    clear hr
    go_wp2
    go_ret
    exact ⟨ret_bool (by rw [HM.out]; simp; omega), hb⟩

theorem quotaClosure_any (k q : Int) (g : Nat) (w : World) (hg : w.cell? ⟨g, 0, none⟩ = some (.int .i64 k)) :
    Calls Try.prog 120 #[.int .i64 q, .pointer (some ⟨g, 0, none⟩)] w fun e w' => e = .returned (.bool (qOut k q)) ∧ Below w.heap.size w w' := by
  by_cases h1 : q < 1
  · go_enter Try.func120, Try.ntmps120
    go_wp2
    go_ret
    exact ⟨ret_bool (by simp [qOut, h1]), Below.refl _ _⟩
  · by_cases h2 : k < q
    · go_enter Try.func120, Try.ntmps120
      go_wp2
      go_ret
      exact ⟨ret_bool (by simp [qOut, h2]), Below.refl _ _⟩
    · go_enter Try.func120, Try.ntmps120
      go_wp2
      go_ret
      exact ⟨ret_bool (by simp [qOut]; omega), Below.refl _ _⟩

theorem quotas_any {n k : Int} {qs : List Int} (hl : (qs.length : Int) = n) : quotasB n k qs = !(qs.any (qOut k)) := by
  by_cases h : ∀ j, j < qs.length → qOut k (qs.getD j 0) = false
  · rw [quotasB_true ⟨h, hl⟩, any_false h]; rfl
  · rw [quotasB_false (fun hh : QuotasOk n k qs => h hh.1)]
    cases ha : qs.any (qOut k)
    · exfalso
      apply h
      intro j hj
      rw [List.any_eq_false] at ha
      have := ha _ (mem_of_at hj)
      rw [getD_lt hj]
      simpa using this
    · rfl

set_option maxHeartbeats 1000000 in
theorem implValidQuotas_any (n k : Int) (a l : Option Addr) (cap capl len : Nat) (qs : List Int) (w : World) (hj : Ints w l qs) (hm : qs.length ≤ 1048576) :
    Calls Try.prog 77 #[.agg #[.int .i64 n, .slice a len cap], .int .i64 k, .slice l qs.length capl] w fun e w' => e = .returned (.bool (quotasB n k qs)) ∧ Below w.heap.size w w' := by
  have bx := (Box.new w n a len cap 25).below (bel1 (w.alloc (.cells #[.int .i64 n, .slice a len cap] 25)) (.cells #[.int .i64 k] 3))
  have hB := bel2 w (.cells #[.int .i64 n, .slice a len cap] 25) (.cells #[.int .i64 k] 3)
  have il := hj.below hB
  have kx : (((w.alloc (.cells #[.int .i64 n, .slice a len cap] 25)).alloc (.cells #[.int .i64 k] 3)).cell? ⟨w.heap.size + 1, 0, none⟩ = some (.int .i64 k)) ∧ w.heap.size + 1 < ((w.alloc (.cells #[.int .i64 n, .slice a len cap] 25)).alloc (.cells #[.int .i64 k] 3)).heap.size := ⟨by simp [go_sem], by simp⟩
  have KX := hide kx
  have IL := hide il
  have HB := hide hB
  obtain ⟨_, c0, c1⟩ := bx
  clear hj kx il hB
  by_cases hl : (qs.length : Int) = n
  · have hE : ((qs.length : Int) == n) = true := by simpa using hl
    have HN := hide (quotas_any (k := k) hl)
    clear hl
    go_enter Try.func77, Try.ntmps77
    go_wp2_with fail
    refine (containsFuncQ_any (qOut k) _ _ _ _ _ IL.out hm (fun x w' _ hb' => quotaClosure_any k _ _ _ ((hb'.cell (p := ⟨w.heap.size + 1, 0, none⟩) KX.out.2).trans KX.out.1))).mono ?_
    rintro e w2 ⟨rfl, hb2⟩
    go_wp2
    go_ret
    exact ⟨ret_bool HN.out.symm, bnext HB.out hb2⟩
  · have hE : ((qs.length : Int) == n) = false := by simpa using hl
    have HN := hide (quotasB_false (fun h : QuotasOk n k qs => hl h.2))
    clear hl
    go_enter Try.func77, Try.ntmps77
    go_wp2
    go_ret
    exact ⟨ret_bool HN.out.symm, HB.out⟩

end Go.Proofs.Ytnmfhnieknckcaa

/- QsM: Quotas that are safe: plain mathematics. -/
namespace Go.Proofs.Ytnmfhnieknckcaa
open Go.RowKit Go.Joins

/-- how many votes the answers of a part need together -/
def qsK (k : Int) (qs : List Int) (m : Nat × Nat) : Nat → Int
  | 0 => 0
  | j + 1 => if bitN m.2 j = 1 then qsK k qs m j + qs.getD j 0 else if bitN m.1 j = 1 then qsK k qs m j + (k + 1 - qs.getD j 0) else qsK k qs m j
theorem qsK_bit {k : Int} {qs : List Int} {m : Nat × Nat} {j : Nat} (h : bitN m.2 j = 1) : qsK k qs m (j + 1) = qsK k qs m j + qs.getD j 0 := by rw [qsK, if_pos h]
theorem qsK_care {k : Int} {qs : List Int} {m : Nat × Nat} {j : Nat} (h : bitN m.2 j = 0) (h' : bitN m.1 j = 1) : qsK k qs m (j + 1) = qsK k qs m j + (k + 1 - qs.getD j 0) := by rw [qsK, if_neg (by rw [h]; decide), if_pos h']
theorem qsK_none {k : Int} {qs : List Int} {m : Nat × Nat} {j : Nat} (h : bitN m.2 j = 0) (h' : bitN m.1 j = 0) : qsK k qs m (j + 1) = qsK k qs m j := by rw [qsK, if_neg (by rw [h]; decide), if_neg (by rw [h']; decide)]
theorem qsK_range {k : Int} {qs : List Int} (hk : 1 ≤ k ∧ k ≤ 5) (hq : ∀ j, j < qs.length → 1 ≤ qs.getD j 0 ∧ qs.getD j 0 ≤ k) (m : Nat × Nat) : ∀ j, j ≤ qs.length → 0 ≤ qsK k qs m j ∧ qsK k qs m j ≤ 5 * j
  | 0, _ => by simp [qsK]
  | j + 1, h => by
    have ih := qsK_range hk hq m j (by omega)
    have h1 := hq j (by omega)
    rw [qsK]
    split
    · push_cast
      omega
    · split
      · push_cast
        omega
      · push_cast
        omega
def qfew (k : Int) (qs : List Int) (N : Nat) (m : Nat × Nat) : Bool := decide (qsK k qs m N ≤ k * ((wt m.1 : Nat) - 1 : Int))
def QsOk (n : Int) (zs : List Int) (k : Int) (qs : List Int) : Prop := vsB n zs = true ∧ (1 ≤ k ∧ k ≤ 5) ∧ quotasB n k qs = true
instance (n : Int) (zs : List Int) (k : Int) (qs : List Int) : Decidable (QsOk n zs k qs) := by unfold QsOk; infer_instance
/-- what IsQuotaSafe answers -/
def qsB (n : Int) (zs : List Int) (k : Int) (qs : List Int) : Bool := decide (QsOk n zs k qs) && (critL n.toNat zs).all fun m => !qfew k qs n.toNat m
theorem qsB_no {n : Int} {zs : List Int} {k : Int} {qs : List Int} (h : ¬ QsOk n zs k qs) : qsB n zs k qs = false := by unfold qsB; rw [decide_eq_false h]; rfl
theorem qsB_yes {n : Int} {zs : List Int} {k : Int} {qs : List Int} (h : QsOk n zs k qs) : qsB n zs k qs = (critL n.toNat zs).all fun m => !qfew k qs n.toNat m := by unfold qsB; rw [decide_eq_true h]; rfl
theorem quotas_in {n k : Int} {qs : List Int} (h : quotasB n k qs = true) : (∀ j, j < qs.length → 1 ≤ qs.getD j 0 ∧ qs.getD j 0 ≤ k) ∧ (qs.length : Int) = n := by
  have hq := quotas_of h
  refine ⟨fun j hj => ?_, hq.2⟩
  have h1 := hq.1 j hj
  unfold qOut at h1
  simp only [decide_eq_false_iff_not] at h1
  omega
theorem qs_found {N : Nat} {zs : List Int} {k : Int} {qs : List Int} (h : QsOk (N : Int) zs k qs) {i : Nat} (hi : i < (critL N zs).length) (hq : qfew k qs N (critL N zs)[i] = true) : qsB (N : Int) zs k qs = false := by
  rw [qsB_yes h, Int.toNat_natCast, List.all_eq_false]
  exact ⟨_, List.getElem_mem hi, by rw [hq]; decide⟩
theorem qs_all {N : Nat} {zs : List Int} {k : Int} {qs : List Int} (h : QsOk (N : Int) zs k qs) (ha : ∀ i (hi : i < (critL N zs).length), qfew k qs N (critL N zs)[i] = false) : qsB (N : Int) zs k qs = true := by
  rw [qsB_yes h, Int.toNat_natCast, List.all_eq_true]
  intro m hm
  obtain ⟨i, hi, rfl⟩ := List.getElem_of_mem hm
  rw [ha i hi]
  rfl

theorem inR_was (n l h : Int) (r : Bool) (w : World) (hr : decide (l ≤ n ∧ n ≤ h) = r) : Calls Try.prog 80 #[.int .i64 n, .int .i64 l, .int .i64 h] w fun e w' => e = .returned (.bool r) ∧ w = w' := by
  subst hr
  exact inRange_any n l h w
theorem specVQ_was (n k : Int) (a l : Option Addr) (cap capl len : Nat) (qs : List Int) (r : Bool) (w : World) (hj : Ints w l qs) (hm : qs.length ≤ 1048576) (h : quotasB n k qs = r) :
    Calls Try.prog 81 #[.agg #[.int .i64 n, .slice a len cap], .int .i64 k, .slice l qs.length capl] w fun e w' => e = .returned (.bool r) ∧ Below w.heap.size w w' := by
  subst h
  exact validQuotas_any n k a l cap capl len qs w hj hm
theorem implVQ_was (n k : Int) (a l : Option Addr) (cap capl len : Nat) (qs : List Int) (r : Bool) (w : World) (hj : Ints w l qs) (hm : qs.length ≤ 1048576) (h : quotasB n k qs = r) :
    Calls Try.prog 77 #[.agg #[.int .i64 n, .slice a len cap], .int .i64 k, .slice l qs.length capl] w fun e w' => e = .returned (.bool r) ∧ Below w.heap.size w w' := by
  subst h
  exact implValidQuotas_any n k a l cap capl len qs w hj hm
theorem validCountQ_any (n : Int) (r : Bool) (w : World) (h : decide (1 ≤ n ∧ n ≤ 5) = r) : Calls Try.prog 76 #[.int .i64 n] w fun e w' => e = .returned (.bool r) ∧ w = w' := by
  by_cases h1 : 1 ≤ n
  · by_cases h2 : n ≤ 5
    · have hr : r = true := by rw [← h]; exact decide_eq_true ⟨h1, h2⟩
      subst hr
      clear h
      go_enter Try.func76, Try.ntmps76
      go_wp2_with fail
      go_ret
      exact ⟨rfl, rfl⟩
    · have hr : r = false := by rw [← h]; exact decide_eq_false fun h' => h2 h'.2
      subst hr
      clear h
      go_enter Try.func76, Try.ntmps76
      go_wp2_with fail
      go_ret
      exact ⟨rfl, rfl⟩
  · have hr : r = false := by rw [← h]; exact decide_eq_false fun h' => h1 h'.1
    subst hr
    clear h
    go_enter Try.func76, Try.ntmps76
    go_wp2_with fail
    go_ret
    exact ⟨rfl, rfl⟩
end Go.Proofs.Ytnmfhnieknckcaa

/- QsI: IsQuotaSafe of the program. -/
namespace Go.Proofs.Ytnmfhnieknckcaa
open Go.RowKit Go.Joins

theorem implVSq_was (n : Int) (a : Option Addr) (cap : Nat) (zs : List Int) (r : Bool) (w : World) (hi : Ints w a zs) (hn : zs.length ≤ 1048576) (h : vsB n zs = r) :
    Calls Try.prog 27 #[.agg #[.int .i64 n, .slice a zs.length cap]] w fun e w' => e = .returned (.bool r) ∧ Below w.heap.size w w' := by
  subst h
  exact implValidSpace_any n a cap zs w hi hn
set_option maxHeartbeats 4000000 in
theorem quotaSum_any (k : Int) (l : Option Addr) (cap N : Nat) (qs : List Int) (mc mb : Nat) (w : World) (hi : Ints w l qs) (hN : qs.length = N) (h4 : N ≤ 4) (hk : 1 ≤ k ∧ k ≤ 5) (hq : ∀ j, j < qs.length → 1 ≤ qs.getD j 0 ∧ qs.getD j 0 ≤ k) (hc : mc < 16) (hb : mb < 16) :
    Calls Try.prog 78 #[.agg #[.int .i64 (mc : Int), .int .i64 (mb : Int)], .int .i64 k, .slice l N cap] w fun e w' => e = .returned (.int .i64 (qsK k qs (mc, mb) N)) ∧ Below w.heap.size w w' := by
  subst hN
  have P0 := PBox.new w (mc : Int) (mb : Int) 67
  have B0 := hide (bel1 w (.cells #[.int .i64 (mc : Int), .int .i64 (mb : Int)] 67))
  obtain ⟨_, p0, p1⟩ := P0
  have HI := hide (hi.below B0.out)
  have HQ := hide hq
  have HR : Hid (∀ j, j ≤ qs.length → 0 ≤ qsK k qs (mc, mb) j ∧ qsK k qs (mc, mb) j ≤ 5 * j) := fun j hj => qsK_range hk hq (mc, mb) j hj
  clear hi hq
  go_enter Try.func78, Try.ntmps78
  go_wp2_with fail
  go_loop [7, 12] (fun s i => ∃ j : Nat, j ≤ qs.length ∧ i = .int .i64 j ∧ s = .int .i64 (qsK k qs (mc, mb) j)) (fun _ i => qs.length - (intOf i).toNat)
  case atStart => exact ⟨0, Nat.zero_le _, rfl, rfl⟩
  case round =>
    obtain ⟨j, hj, rfl, rfl⟩ := hrel
    by_cases hjt : j < qs.length
    · obtain ⟨b, off, rfl, _, hcell⟩ := HI.out (by omega)
      have x1 := hcell j hjt
      have hqj := HQ.out j hjt
      have hr := HR.out j hj
      obtain ⟨q, hqq⟩ : ∃ q, qs.getD j 0 = q := ⟨_, rfl⟩
      obtain ⟨ec, hec⟩ : ∃ ec, bitN mc j = ec := ⟨_, rfl⟩
      obtain ⟨eb, heb⟩ : ∃ eb, bitN mb j = eb := ⟨_, rfl⟩
      have l1 := bitN_le mc j
      have l2 := bitN_le mb j
      have s1 := shrL mc j (by omega)
      have s2 := shrL mb j (by omega)
      rw [hec] at l1 s1
      rw [heb] at l2 s2
      have e1 := fun (h : eb = 1) => qsK_bit (k := k) (qs := qs) (m := (mc, mb)) (j := j) (heb.trans h)
      have e2 := fun (h : eb = 0) (h' : ec = 1) => qsK_care (k := k) (qs := qs) (m := (mc, mb)) (j := j) (heb.trans h) (hec.trans h')
      have e3 := fun (h : eb = 0) (h' : ec = 0) => qsK_none (k := k) (qs := qs) (m := (mc, mb)) (j := j) (heb.trans h) (hec.trans h')
      rw [hqq] at x1 hqj e1 e2
      obtain ⟨sv, hsv⟩ : ∃ sv, qsK k qs (mc, mb) j = sv := ⟨_, rfl⟩
      rw [hsv] at hr e1 e2 e3 ⊢
      have E1 := hide e1
      have E2 := hide e2
      have E3 := hide e3
      clear hcell hqq hec heb hsv e1 e2 e3
      rcases (show eb = 0 ∨ eb = 1 from by omega) with rfl | rfl
      · rcases (show ec = 0 ∨ ec = 1 from by omega) with rfl | rfl
        · go_wp2_with fail
          go_round
          case rel => exact ⟨j + 1, by omega, by go_num, by rw [E3.out rfl rfl]⟩
          case measure => simp only [intOf]; omega
        · go_wp2_with fail
          go_round
          case rel => exact ⟨j + 1, by omega, by go_num, by rw [E2.out rfl rfl]⟩
          case measure => simp only [intOf]; omega
      · go_wp2_with fail
        go_round
        case rel => exact ⟨j + 1, by omega, by go_num, by rw [E1.out rfl]⟩
        case measure => simp only [intOf]; omega
    · obtain rfl : j = qs.length := by omega
      go_wp2_with fail
      go_ret
      exact ⟨rfl, B0.out⟩
theorem belD (w : World) : Below w.heap.size w w.drew := ⟨rfl, rfl, rfl, Nat.le_refl _, fun _ _ => rfl⟩
theorem onesQ_was (x s : Nat) (y : Int) (w : World) (hy : y = (x : Int)) (hx : x < 16) (h : wt x = s) : Calls Try.prog 79 #[.int .u64 y] w fun e w' => e = .returned (.int .i64 (s : Nat)) ∧ w = w' := by
  subst h
  subst hy
  exact onesCount_any x w hx
theorem quotaSum_was (k : Int) (l : Option Addr) (cap N : Nat) (qs : List Int) (mc mb : Nat) (r : Int) (w : World) (hi : Ints w l qs) (hN : qs.length = N) (h4 : N ≤ 4) (hk : 1 ≤ k ∧ k ≤ 5) (hq : ∀ j, j < qs.length → 1 ≤ qs.getD j 0 ∧ qs.getD j 0 ≤ k) (hc : mc < 16) (hb : mb < 16) (h : qsK k qs (mc, mb) N = r) :
    Calls Try.prog 78 #[.agg #[.int .i64 (mc : Int), .int .i64 (mb : Int)], .int .i64 k, .slice l N cap] w fun e w' => e = .returned (.int .i64 r) ∧ Below w.heap.size w w' := by
  subst h
  exact quotaSum_any k l cap N qs mc mb w hi hN h4 hk hq hc hb

set_option maxHeartbeats 4000000 in
set_option maxRecDepth 100000 in
theorem implIsQuotaSafe_any (n : Int) (a : Option Addr) (cap : Nat) (zs : List Int) (k : Int) (l : Option Addr) (qs : List Int) (capl : Nat) (w : World) (hi : Ints w a zs) (hj : Ints w l qs) (hn : zs.length ≤ 1048576) (hm : qs.length ≤ 1048576) :
    Calls Try.prog 25 #[.agg #[.int .i64 n, .slice a zs.length cap], .int .i64 k, .slice l qs.length capl] w fun e w' => e = .returned (.bool (qsB n zs k qs)) ∧ Below w.heap.size w w' := by
  have S0 := SV.new w n a zs cap l qs 25 hi hj
  clear hi hj
  obtain ⟨⟨_, c0, c1⟩, _⟩ := S0.pair
  by_cases hok : QsOk n zs k qs
  · have HOK := hide hok
    obtain ⟨hv, hk, hq⟩ := hok
    have hn4 := (valid_of hv).1
    obtain ⟨N, rfl⟩ : ∃ N : Nat, n = (N : Int) := ⟨n.toNat, by omega⟩
    have hN : 1 ≤ N ∧ N ≤ 4 := by omega
    have hqi := quotas_in hq
    have hql : qs.length = N := by omega
    have HV := hide hv
    have HQ := hide hq
    have HQI := hide hqi.1
    have HQL := hide hql
    have HK := hide (show decide (1 ≤ k ∧ k ≤ 5) = true from decide_eq_true hk)
    obtain ⟨L, hL⟩ : ∃ L, L = critL N zs := ⟨_, rfl⟩
    have HCR : Hid (crR (N : Int) zs = ofP L) := by unfold Hid; rw [crR_yes hv, Int.toNat_natCast, hL]
    have hl81 : L.length ≤ 81 := by
      rw [hL]
      have h1 : (ordL N).length ≤ 81 := by simpa using range5_of ord_len hN.2
      exact Nat.le_trans (List.length_filter_le _ _) h1
    have H16 : Hid (∀ p ∈ L, p.1 < 16 ∧ p.2 < 16) := fun p hp => by
      rw [hL] at hp
      exact ord_16 hN.2 (List.mem_filter.1 hp).1
    have HLL := hide (ofP_len L)
    have FND : Hid (∀ i (hi : i < L.length), qfew k qs N L[i] = true → qsB (N : Int) zs k qs = false) := fun i hi h => by subst hL; exact qs_found HOK.out hi h
    have ALL : Hid ((∀ i (hi : i < L.length), qfew k qs N L[i] = false) → qsB (N : Int) zs k qs = true) := fun h => by subst hL; exact qs_all HOK.out h
    clear hv hq hqi hql hn4 hL
    go_enter Try.func25, Try.ntmps25
    go_wp2_with fail
    refine (implVSq_was _ _ _ _ true _ S0.2.1 hn HV.out).mono ?_
    rintro e w1 ⟨rfl, hb⟩
    have S1 := S0.below hb
    clear S0 hb c0 c1
    obtain ⟨⟨_, c0, c1⟩, _⟩ := S1.pair
    go_wp2_with (go_at_call 76; refine (validCountQ_any _ true _ HK.out).mono ?_; rintro e w' ⟨rfl, rfl⟩)
    refine (implVQ_was _ _ _ _ _ _ _ _ true _ S1.2.2.1 hm HQ.out).mono ?_
    rintro e w2 ⟨rfl, hb⟩
    have S2 := S1.below hb
    clear S1 hb c0 c1
    obtain ⟨⟨_, c0, c1⟩, _⟩ := S2.pair
    go_wp2_with fail
    refine (implCriticalParts_any _ _ _ _ _ S2.2.1 hn).mono ?_
    rintro e w3 ⟨v, rfl, own, hb3⟩
    rw [HCR.out] at own
    obtain ⟨va, vc, hve, pin⟩ := own.form
    rw [HLL.out] at hve
    subst hve
    have PIN := hide pin
    have S3 := hide (S2.below hb3)
    clear c0 c1 S2 own hb3 pin
    go_wp2_with fail
    rw [HQL.out]
    go_loopw [27] (fun i wr => ∃ ii : Nat, ii ≤ L.length ∧ i = .int .i64 ii ∧ Hid (∀ i' (hi : i' < L.length), i' < ii → qfew k qs N L[i'] = false) ∧ Below w3.heap.size w3 wr) (fun i _ => L.length - (intOf i).toNat)
    case atStart => exact ⟨0, Nat.zero_le _, rfl, fun i' hi h => by omega, Below.refl _ _⟩
    case round =>
      obtain ⟨ii, hii, rfl, hall, hbw⟩ := hrel
      by_cases hlt : ii < L.length
      · obtain ⟨pc, hpc⟩ : ∃ pc, pc = L[ii].1 := ⟨_, rfl⟩
        obtain ⟨pb, hpb⟩ : ∃ pb, pb = L[ii].2 := ⟨_, rfl⟩
        have hm' : L[ii] = (pc, pb) := by rw [hpc, hpb]
        have h16 := H16.out L[ii] (List.getElem_mem hlt)
        rw [hm'] at h16
        obtain ⟨b1, o1, rfl, hb1, hc1⟩ := PIN.out (by rw [HLL.out]; omega)
        obtain ⟨x1, x2⟩ := hc1 ii (by rw [HLL.out]; omega)
        rw [ofP_at hlt, hm'] at x1 x2
        have z1 := (hbw.cell (p := ⟨b1, o1 + ii * 2, none⟩) (World.block_lt_of_cell? _ _ x1)).trans x1
        have z2 := (hbw.cell (p := ⟨b1, o1 + ii * 2 + 1, none⟩) (World.block_lt_of_cell? _ _ x2)).trans x2
        obtain ⟨_, p0, p1⟩ := PBox.new wr (pc : Int) (pb : Int) 67
        have HBW := hide hbw
        have B5 := hide (bnext hbw (bel1 wr (.cells #[.int .i64 (pc : Int), .int .i64 (pb : Int)] 67)))
        have I5 := hide ((S3.out.below B5.out).2.2.1)
        have FND' : Hid (qfew k qs N (pc, pb) = true → qsB (N : Int) zs k qs = false) := fun h => FND.out ii hlt (by rw [hm']; exact h)
        have NXT : Hid (qfew k qs N (pc, pb) = false → ∀ i' (hi : i' < L.length), i' < ii + 1 → qfew k qs N L[i'] = false) := fun h i' hi h1 => by
          rcases Nat.lt_or_ge i' ii with h2 | h2
          · exact hall.out i' hi h2
          · obtain rfl : i' = ii := by omega
            rw [hm']
            exact h
        obtain ⟨wc, hwc⟩ : ∃ wc, wt pc = wc := ⟨_, rfl⟩
        have hw4 : wc ≤ 4 := by rw [← hwc]; exact wt_le pc
        obtain ⟨sv, hsv⟩ : ∃ sv, qsK k qs (pc, pb) N = sv := ⟨_, rfl⟩
        have hfw : qfew k qs N (pc, pb) = decide (sv ≤ k * ((wc : Nat) - 1 : Int)) := by unfold qfew; rw [hsv]; simp only [hwc]
        rw [hfw] at FND' NXT
        have HWC := hide hwc
        have HSV := hide hsv
        have H16m := hide h16
        have hprod : 0 - 5 ≤ k * ((wc : Nat) - 1 : Int) ∧ k * ((wc : Nat) - 1 : Int) ≤ 15 := by
          rcases (show wc = 0 ∨ wc = 1 ∨ wc = 2 ∨ wc = 3 ∨ wc = 4 from by omega) with rfl | rfl | rfl | rfl | rfl <;> simp <;> omega
        obtain ⟨pr, hpr⟩ : ∃ pr, k * ((wc : Nat) - 1 : Int) = pr := ⟨_, rfl⟩
        rw [hpr] at hprod FND' NXT
        have H16p := H16m.out
        have hpc16 : pc < 16 := h16.1
        have HU : Hid (IntKind.u64.wrap (pc : Int) = (pc : Int)) := by unfold Hid IntKind.wrap; simp [IntKind.bits]; omega
        clear x1 x2 hc1 hb1 hpc hpb hm' hbw hall hwc hsv hfw h16 H16p
        go_wp2_with fail
        clear z1 z2
        go_region_held3 (fun w' => w'.cell? ⟨wr.heap.size, 0, none⟩ = some (.int .i64 (pc : Int)) ∧ w'.cell? ⟨wr.heap.size, 1, none⟩ = some (.int .i64 (pb : Int))) (first | go_keep | exact HK5.out)
          ((first
            | (go_at_call 78; (with_reducible refine (quotaSum_was k l capl N qs pc pb sv _ (I5.out.below (belD _)) HQL.out hN.2 hk HQI.out H16m.out.1 H16m.out.2 HSV.out).mono ?_); rintro e w5 ⟨rfl, b5⟩; have HK5 := hide (show w5.cell? ⟨wr.heap.size, 0, none⟩ = some (.int .i64 (pc : Int)) ∧ w5.cell? ⟨wr.heap.size, 1, none⟩ = some (.int .i64 (pb : Int)) from ⟨(b5.cell (p := ⟨wr.heap.size, 0, none⟩) (World.block_lt_of_cell? _ _ (by assumption))).trans (by assumption), (b5.cell (p := ⟨wr.heap.size, 1, none⟩) (World.block_lt_of_cell? _ _ (by assumption))).trans (by assumption)⟩))
            | (go_at_call 79; (with_reducible refine (onesQ_was pc wc _ _ HU.out hpc16 HWC.out).mono ?_); rintro e w' ⟨rfl, rfl⟩)))
        all_goals
          have hw1 : IntKind.i64.wrap ((wc : Int) - 1) = (wc : Int) - 1 := IntWalk.i64_in _ (by omega)
          have hw2 : IntKind.i64.wrap (k * IntKind.i64.wrap ((wc : Int) - 1)) = pr := by rw [hw1, hpr]; exact IntWalk.i64_in _ (by omega)
          rw [hw2]
          clear hw1 hw2
          have B6 := hide (bnext B5.out (bdrew b5))
          by_cases hle : sv ≤ pr
          · have HLE := hide (show decide (sv ≤ pr) = true from decide_eq_true hle)
            rw [HLE.out]
            clear hle
            go_wp2_with fail
            go_ret
            exact ⟨ret_bool (FND'.out HLE.out).symm, bnext S3.out.2.2.2 B6.out⟩
          · have HLE := hide (show decide (sv ≤ pr) = false from decide_eq_false hle)
            rw [HLE.out]
            clear hle
            go_wp2_with fail
            go_roundw
            case rel => exact ⟨ii + 1, by omega, by go_num, NXT.out HLE.out, B6.out⟩
            case measure => simp only [intOf]; omega
      · obtain rfl : ii = L.length := by omega
        go_wp2_with fail
        go_ret
        exact ⟨ret_bool (ALL.out fun i hi => hall.out i hi hi).symm, bnext S3.out.2.2.2 hbw⟩
  · have HN := hide (qsB_no hok)
    by_cases hv : vsB n zs = true
    · have HV := hide hv
      by_cases hk : 1 ≤ k ∧ k ≤ 5
      · have HK := hide (show decide (1 ≤ k ∧ k ≤ 5) = true from decide_eq_true hk)
        have HQ : Hid (quotasB n k qs = false) := by
          unfold Hid
          cases hq : quotasB n k qs with
          | false => rfl
          | true => exact absurd ⟨hv, hk, hq⟩ hok
        clear hok hv
        go_enter Try.func25, Try.ntmps25
        go_wp2_with fail
        refine (implVSq_was _ _ _ _ true _ S0.2.1 hn HV.out).mono ?_
        rintro e w1 ⟨rfl, hb⟩
        have S1 := S0.below hb
        clear S0 hb c0 c1
        obtain ⟨⟨_, c0, c1⟩, _⟩ := S1.pair
        go_wp2_with (go_at_call 76; refine (validCountQ_any _ true _ HK.out).mono ?_; rintro e w' ⟨rfl, rfl⟩)
        refine (implVQ_was _ _ _ _ _ _ _ _ false _ S1.2.2.1 hm HQ.out).mono ?_
        rintro e w2 ⟨rfl, hb⟩
        go_wp2_with fail
        go_ret
        exact ⟨ret_bool HN.out.symm, (S1.below hb).2.2.2⟩
      · have HK := hide (show decide (1 ≤ k ∧ k ≤ 5) = false from decide_eq_false hk)
        clear hok hv hk
        go_enter Try.func25, Try.ntmps25
        go_wp2_with fail
        refine (implVSq_was _ _ _ _ true _ S0.2.1 hn HV.out).mono ?_
        rintro e w1 ⟨rfl, hb⟩
        have S1 := S0.below hb
        clear S0 hb c0 c1
        go_wp2_with (go_at_call 76; refine (validCountQ_any _ false _ HK.out).mono ?_; rintro e w' ⟨rfl, rfl⟩)
        go_ret
        exact ⟨ret_bool HN.out.symm, S1.2.2.2⟩
    · have HV := hide (show vsB n zs = false from by simpa using hv)
      clear hok hv
      go_enter Try.func25, Try.ntmps25
      go_wp2_with fail
      refine (implVSq_was _ _ _ _ false _ S0.2.1 hn HV.out).mono ?_
      rintro e w1 ⟨rfl, hb⟩
      go_wp2_with fail
      go_ret
      exact ⟨ret_bool HN.out.symm, (S0.below hb).2.2.2⟩
end Go.Proofs.Ytnmfhnieknckcaa

/- QsS: IsQuotaSafe of the model. -/
namespace Go.Proofs.Ytnmfhnieknckcaa
open Go.RowKit Go.Joins

theorem specVSq_was (n : Int) (a : Option Addr) (cap : Nat) (zs : List Int) (r : Bool) (w : World) (hi : Ints w a zs) (hn : zs.length ≤ 1048576) (h : vsB n zs = r) :
    Calls Try.prog 50 #[.agg #[.int .i64 n, .slice a zs.length cap]] w fun e w' => e = .returned (.bool r) ∧ Below w.heap.size w w' := by
  subst h
  exact validSpace_any n a cap zs w hi hn
theorem weightQ_was (x : Nat) (s : Nat) (w : World) (hx : x < 16) (h : wt x = s) : Calls Try.prog 83 #[.int .i64 x] w fun e w' => e = .returned (.int .i64 (s : Nat)) ∧ w = w' := by
  subst h
  exact weight_any x w hx
set_option maxHeartbeats 8000000 in
set_option maxRecDepth 100000 in
theorem specIsQuotaSafe_any (n : Int) (a : Option Addr) (cap : Nat) (zs : List Int) (k : Int) (l : Option Addr) (qs : List Int) (capl : Nat) (w : World) (hi : Ints w a zs) (hj : Ints w l qs) (hn : zs.length ≤ 1048576) (hm : qs.length ≤ 1048576) :
    Calls Try.prog 26 #[.agg #[.int .i64 n, .slice a zs.length cap], .int .i64 k, .slice l qs.length capl] w fun e w' => e = .returned (.bool (qsB n zs k qs)) ∧ Below w.heap.size w w' := by
  have S0 := SV.new w n a zs cap l qs 25 hi hj
  clear hi hj
  obtain ⟨⟨_, c0, c1⟩, _⟩ := S0.pair
  by_cases hok : QsOk n zs k qs
  · have HOK := hide hok
    obtain ⟨hv, hk, hq⟩ := hok
    have hn4 := (valid_of hv).1
    have HR := hide (valid_range (valid_of hv))
    obtain ⟨N, rfl⟩ : ∃ N : Nat, n = (N : Int) := ⟨n.toNat, by omega⟩
    have hN : 1 ≤ N ∧ N ≤ 4 := by omega
    have hqi := quotas_in hq
    have hql : qs.length = N := by omega
    have HV := hide hv
    have HQ := hide hq
    have HQI := hide hqi.1
    have HQL := hide hql
    have HQR : Hid (∀ (m : Nat × Nat) j, j ≤ N → 0 ≤ qsK k qs m j ∧ qsK k qs m j ≤ 5 * j) := fun m j hj => qsK_range hk hqi.1 m j (by omega)
    have HK := hide (show decide (1 ≤ k ∧ k ≤ 5) = true from decide_eq_true hk)
    obtain ⟨L, hL⟩ : ∃ L, L = critL N zs := ⟨_, rfl⟩
    have HL := hide hL
    have hl81 : L.length ≤ 81 := by
      rw [hL]
      have h1 : (ordL N).length ≤ 81 := by simpa using range5_of ord_len hN.2
      exact Nat.le_trans (List.length_filter_le _ _) h1
    have H16 : Hid (∀ p ∈ L, p.1 < 16 ∧ p.2 < 16) := fun p hp => by
      rw [hL] at hp
      exact ord_16 hN.2 (List.mem_filter.1 hp).1
    have HLL := hide (ofP_len L)
    have FND : Hid (∀ i (hi : i < L.length), qfew k qs N L[i] = true → qsB (N : Int) zs k qs = false) := fun i hi h => by subst hL; exact qs_found HOK.out hi h
    have ALL : Hid ((∀ i (hi : i < L.length), qfew k qs N L[i] = false) → qsB (N : Int) zs k qs = true) := fun h => by subst hL; exact qs_all HOK.out h
    clear hv hq hqi hql hn4 hL
    go_enter Try.func26, Try.ntmps26
    go_wp2_with fail
    refine (specVSq_was _ _ _ _ true _ S0.2.1 hn HV.out).mono ?_
    rintro e w1 ⟨rfl, hb⟩
    have S1 := S0.below hb
    clear S0 hb c0 c1
    obtain ⟨⟨_, c0, c1⟩, _⟩ := S1.pair
    go_wp2_with (go_at_call 80; refine (inR_was _ _ _ true _ HK.out).mono ?_; rintro e w' ⟨rfl, rfl⟩)
    refine (specVQ_was _ _ _ _ _ _ _ _ true _ S1.2.2.1 hm HQ.out).mono ?_
    rintro e w2 ⟨rfl, hb⟩
    have S2 := S1.below hb
    clear S1 hb c0 c1
    obtain ⟨⟨_, c0, c1⟩, _⟩ := S2.pair
    go_wp2_with fail
    refine (critical_any N _ _ _ _ S2.2.1 hn hN HR.out).mono ?_
    rintro e w3 ⟨v, rfl, own, hb3⟩
    rw [← HL.out] at own
    obtain ⟨va, vc, hve, pin⟩ := own.form
    rw [HLL.out] at hve
    subst hve
    have PIN := hide pin
    have S3 := S2.below hb3
    obtain ⟨⟨_, c0', _⟩, _⟩ := S3.pair
    have B3 := hide S3.2.2.2
    have IQ := hide S3.2.2.1
    clear c0 c1 S2 own hb3 pin S3
    go_wp2_with fail
    rw [HQL.out]
    go_loop [8] (fun i => ∃ ii : Nat, ii ≤ L.length ∧ i = .int .i64 ii ∧ Hid (∀ i' (hi : i' < L.length), i' < ii → qfew k qs N L[i'] = false)) (fun i => L.length - (intOf i).toNat)
    case atStart => exact ⟨0, Nat.zero_le _, rfl, fun i' hi h => by omega⟩
    case round =>
      obtain ⟨ii, hii, rfl, hall⟩ := hrel
      by_cases hlt : ii < L.length
      · obtain ⟨pc, hpc⟩ : ∃ pc, pc = L[ii].1 := ⟨_, rfl⟩
        obtain ⟨pb, hpb⟩ : ∃ pb, pb = L[ii].2 := ⟨_, rfl⟩
        have hm' : L[ii] = (pc, pb) := by rw [hpc, hpb]
        have h16 := H16.out L[ii] (List.getElem_mem hlt)
        rw [hm'] at h16
        obtain ⟨b1, o1, rfl, hb1, hc1⟩ := PIN.out (by rw [HLL.out]; omega)
        obtain ⟨z1, z2⟩ := hc1 ii (by rw [HLL.out]; omega)
        rw [ofP_at hlt, hm'] at z1 z2
        have FND' : Hid (qfew k qs N (pc, pb) = true → qsB (N : Int) zs k qs = false) := fun h => FND.out ii hlt (by rw [hm']; exact h)
        have NXT : Hid (qfew k qs N (pc, pb) = false → ∀ i' (hi : i' < L.length), i' < ii + 1 → qfew k qs N L[i'] = false) := fun h i' hi h1 => by
          rcases Nat.lt_or_ge i' ii with h2 | h2
          · exact hall.out i' hi h2
          · obtain rfl : i' = ii := by omega
            rw [hm']
            exact h
        obtain ⟨wc, hwc⟩ : ∃ wc, wt pc = wc := ⟨_, rfl⟩
        have hw4 : wc ≤ 4 := by rw [← hwc]; exact wt_le pc
        have hfw : qfew k qs N (pc, pb) = decide (qsK k qs (pc, pb) N ≤ k * ((wc : Nat) - 1 : Int)) := by unfold qfew; simp only [hwc]
        rw [hfw] at FND' NXT
        have HWC := hide hwc
        clear hc1 hb1 hpc hpb hm' hall hwc hfw
        go_wp2_with fail
        go_loop [9, 10] (fun s i => ∃ j : Nat, j ≤ N ∧ i = .int .i64 j ∧ s = .int .i64 (qsK k qs (pc, pb) j)) (fun _ i => N - (intOf i).toNat)
        case atStart => exact ⟨0, Nat.zero_le _, rfl, rfl⟩
        case round =>
          obtain ⟨j, hj, rfl, rfl⟩ := hrel
          by_cases hjt : j < N
          · obtain ⟨bq, oq, rfl, _, hcell⟩ := IQ.out (by rw [HQL.out]; omega)
            have x1 := hcell j (by rw [HQL.out]; exact hjt)
            have hqj := HQI.out j (by rw [HQL.out]; exact hjt)
            have hr := HQR.out (pc, pb) j hj
            obtain ⟨q, hqq⟩ : ∃ q, qs.getD j 0 = q := ⟨_, rfl⟩
            obtain ⟨ec, hec⟩ : ∃ ec, bitN pc j = ec := ⟨_, rfl⟩
            obtain ⟨eb, heb⟩ : ∃ eb, bitN pb j = eb := ⟨_, rfl⟩
            have l1 := bitN_le pc j
            have l2 := bitN_le pb j
            rw [hec] at l1
            rw [heb] at l2
            have e1 := fun (h : eb = 1) => qsK_bit (k := k) (qs := qs) (m := (pc, pb)) (j := j) (heb.trans h)
            have e2 := fun (h : eb = 0) (h' : ec = 1) => qsK_care (k := k) (qs := qs) (m := (pc, pb)) (j := j) (heb.trans h) (hec.trans h')
            have e3 := fun (h : eb = 0) (h' : ec = 0) => qsK_none (k := k) (qs := qs) (m := (pc, pb)) (j := j) (heb.trans h) (hec.trans h')
            rw [hqq] at x1 hqj e1 e2
            obtain ⟨sv, hsv⟩ : ∃ sv, qsK k qs (pc, pb) j = sv := ⟨_, rfl⟩
            rw [hsv] at hr e1 e2 e3 ⊢
            have E1 := hide e1
            have E2 := hide e2
            have E3 := hide e3
            have HEC := hide hec
            have HEB := hide heb
            clear hcell hqq hec heb hsv e1 e2 e3
            rcases (show eb = 0 ∨ eb = 1 from by omega) with rfl | rfl
            · rcases (show ec = 0 ∨ ec = 1 from by omega) with rfl | rfl
              · go_wp2_with (go_at_call 82; (first | refine (bit8_was pb j 0 _ (by omega) (by omega) HEB.out).mono ?_ | refine (bit8_was pc j 0 _ (by omega) (by omega) HEC.out).mono ?_); rintro e w' ⟨rfl, rfl⟩)
                go_round
                case rel => exact ⟨j + 1, by omega, by go_num, by rw [E3.out trivial trivial]⟩
                case measure => simp only [intOf]; omega
              · go_wp2_with (go_at_call 82; (first | refine (bit8_was pb j 0 _ (by omega) (by omega) HEB.out).mono ?_ | refine (bit8_was pc j 1 _ (by omega) (by omega) HEC.out).mono ?_); rintro e w' ⟨rfl, rfl⟩)
                go_round
                case rel => exact ⟨j + 1, by omega, by go_num, by rw [E2.out trivial trivial]; exact congrArg (Value.int .i64) (by omega)⟩
                case measure => simp only [intOf]; omega
            · go_wp2_with (go_at_call 82; refine (bit8_was pb j 1 _ (by omega) (by omega) HEB.out).mono ?_; rintro e w' ⟨rfl, rfl⟩)
              go_round
              case rel => exact ⟨j + 1, by omega, by go_num, by rw [E1.out trivial]⟩
              case measure => simp only [intOf]; omega
          · obtain rfl : j = N := by omega
            have hr := HQR.out (pc, pb) j (Nat.le_refl _)
            obtain ⟨sv, hsv⟩ : ∃ sv, qsK k qs (pc, pb) j = sv := ⟨_, rfl⟩
            rw [hsv] at hr FND' NXT ⊢
            clear hsv
            have hprod : 0 - 5 ≤ k * ((wc : Nat) - 1 : Int) ∧ k * ((wc : Nat) - 1 : Int) ≤ 15 := by
              rcases (show wc = 0 ∨ wc = 1 ∨ wc = 2 ∨ wc = 3 ∨ wc = 4 from by omega) with rfl | rfl | rfl | rfl | rfl <;> simp <;> omega
            obtain ⟨pr, hpr⟩ : ∃ pr, k * ((wc : Nat) - 1 : Int) = pr := ⟨_, rfl⟩
            rw [hpr] at hprod FND' NXT
            by_cases hle : sv ≤ pr
            · have HLE := hide (show decide (sv ≤ pr) = true from decide_eq_true hle)
              go_wp2_with (go_at_call 83; refine (weightQ_was pc wc _ (by omega) HWC.out).mono ?_; rintro e w' ⟨rfl, rfl⟩)
              go_ret
              exact ⟨ret_bool (FND'.out HLE.out).symm, B3.out⟩
            · have HLE := hide (show decide (sv ≤ pr) = false from decide_eq_false hle)
              go_wp2_with (go_at_call 83; refine (weightQ_was pc wc _ (by omega) HWC.out).mono ?_; rintro e w' ⟨rfl, rfl⟩)
              go_round
              case rel => exact ⟨ii + 1, by omega, by go_num, NXT.out HLE.out⟩
              case measure => simp only [intOf]; omega
      · obtain rfl : ii = L.length := by omega
        go_wp2_with fail
        go_ret
        exact ⟨ret_bool (ALL.out fun i hi => hall.out i hi hi).symm, B3.out⟩
  · have HN := hide (qsB_no hok)
    by_cases hv : vsB n zs = true
    · have HV := hide hv
      by_cases hk : 1 ≤ k ∧ k ≤ 5
      · have HK := hide (show decide (1 ≤ k ∧ k ≤ 5) = true from decide_eq_true hk)
        have HQ : Hid (quotasB n k qs = false) := by
          unfold Hid
          cases hq : quotasB n k qs with
          | false => rfl
          | true => exact absurd ⟨hv, hk, hq⟩ hok
        clear hok hv
        go_enter Try.func26, Try.ntmps26
        go_wp2_with fail
        refine (specVSq_was _ _ _ _ true _ S0.2.1 hn HV.out).mono ?_
        rintro e w1 ⟨rfl, hb⟩
        have S1 := S0.below hb
        clear S0 hb c0 c1
        obtain ⟨⟨_, c0, c1⟩, _⟩ := S1.pair
        go_wp2_with (go_at_call 80; refine (inR_was _ _ _ true _ HK.out).mono ?_; rintro e w' ⟨rfl, rfl⟩)
        refine (specVQ_was _ _ _ _ _ _ _ _ false _ S1.2.2.1 hm HQ.out).mono ?_
        rintro e w2 ⟨rfl, hb⟩
        go_wp2_with fail
        go_ret
        exact ⟨ret_bool HN.out.symm, (S1.below hb).2.2.2⟩
      · have HK := hide (show decide (1 ≤ k ∧ k ≤ 5) = false from decide_eq_false hk)
        clear hok hv hk
        go_enter Try.func26, Try.ntmps26
        go_wp2_with fail
        refine (specVSq_was _ _ _ _ true _ S0.2.1 hn HV.out).mono ?_
        rintro e w1 ⟨rfl, hb⟩
        have S1 := S0.below hb
        clear S0 hb c0 c1
        go_wp2_with (go_at_call 80; refine (inR_was _ _ _ false _ HK.out).mono ?_; rintro e w' ⟨rfl, rfl⟩)
        go_ret
        exact ⟨ret_bool HN.out.symm, S1.2.2.2⟩
    · have HV := hide (show vsB n zs = false from by simpa using hv)
      clear hok hv
      go_enter Try.func26, Try.ntmps26
      go_wp2_with fail
      refine (specVSq_was _ _ _ _ false _ S0.2.1 hn HV.out).mono ?_
      rintro e w1 ⟨rfl, hb⟩
      go_wp2_with fail
      go_ret
      exact ⟨ret_bool HN.out.symm, (S0.below hb).2.2.2⟩
end Go.Proofs.Ytnmfhnieknckcaa

/- RqT: Rules of quotas: tables of numbers and of answers, sums of sets. -/
namespace Go.Proofs.Ytnmfhnieknckcaa
open Go.RowKit Go.Joins

/-- the first k of the numbers, no others -/
def ptI (k : Nat) (f : Nat → Int) (j : Nat) : Int := if j < k then f j else 0
theorem ptI_set (k : Nat) (f : Nat → Int) (hk : k < 8) : #[Value.int .i64 (ptI k f 0), Value.int .i64 (ptI k f 1), Value.int .i64 (ptI k f 2), Value.int .i64 (ptI k f 3), Value.int .i64 (ptI k f 4), Value.int .i64 (ptI k f 5), Value.int .i64 (ptI k f 6), Value.int .i64 (ptI k f 7)].setIfInBounds k (.int .i64 (f k)) = #[Value.int .i64 (ptI (k + 1) f 0), Value.int .i64 (ptI (k + 1) f 1), Value.int .i64 (ptI (k + 1) f 2), Value.int .i64 (ptI (k + 1) f 3), Value.int .i64 (ptI (k + 1) f 4), Value.int .i64 (ptI (k + 1) f 5), Value.int .i64 (ptI (k + 1) f 6), Value.int .i64 (ptI (k + 1) f 7)] := by
  rcases (show k = 0 ∨ k = 1 ∨ k = 2 ∨ k = 3 ∨ k = 4 ∨ k = 5 ∨ k = 6 ∨ k = 7 from by omega) with rfl | rfl | rfl | rfl | rfl | rfl | rfl | rfl <;> simp [ptI]
theorem ptI_zero (f : Nat → Int) : #[Value.int .i64 (ptI 0 f 0), Value.int .i64 (ptI 0 f 1), Value.int .i64 (ptI 0 f 2), Value.int .i64 (ptI 0 f 3), Value.int .i64 (ptI 0 f 4), Value.int .i64 (ptI 0 f 5), Value.int .i64 (ptI 0 f 6), Value.int .i64 (ptI 0 f 7)] = #[.int .i64 0, .int .i64 0, .int .i64 0, .int .i64 0, .int .i64 0, .int .i64 0, .int .i64 0, .int .i64 0] := by simp [ptI]
theorem ptI_blk {w : World} {g k : Nat} {f : Nat → Int} {t : TypeId} (hk : k < 8) (h : w.heap[g]? = some (.cells #[Value.int .i64 (ptI k f 0), Value.int .i64 (ptI k f 1), Value.int .i64 (ptI k f 2), Value.int .i64 (ptI k f 3), Value.int .i64 (ptI k f 4), Value.int .i64 (ptI k f 5), Value.int .i64 (ptI k f 6), Value.int .i64 (ptI k f 7)] t (0, 0))) : (w.setCell ⟨g, k, none⟩ (.int .i64 (f k))).heap[g]? = some (.cells #[Value.int .i64 (ptI (k + 1) f 0), Value.int .i64 (ptI (k + 1) f 1), Value.int .i64 (ptI (k + 1) f 2), Value.int .i64 (ptI (k + 1) f 3), Value.int .i64 (ptI (k + 1) f 4), Value.int .i64 (ptI (k + 1) f 5), Value.int .i64 (ptI (k + 1) f 6), Value.int .i64 (ptI (k + 1) f 7)] t (0, 0)) := by
  rw [block_setCell h, ptI_set k f hk]
theorem ptI_start (w : World) (f : Nat → Int) (t : TypeId) : (w.alloc (.cells #[.int .i64 0, .int .i64 0, .int .i64 0, .int .i64 0, .int .i64 0, .int .i64 0, .int .i64 0, .int .i64 0] t)).heap[w.heap.size]? = some (.cells #[Value.int .i64 (ptI 0 f 0), Value.int .i64 (ptI 0 f 1), Value.int .i64 (ptI 0 f 2), Value.int .i64 (ptI 0 f 3), Value.int .i64 (ptI 0 f 4), Value.int .i64 (ptI 0 f 5), Value.int .i64 (ptI 0 f 6), Value.int .i64 (ptI 0 f 7)] t (0, 0)) := by
  rw [ptI_zero]; exact new_blk _ _ _
/-- A variable of eight numbers: its cells. -/
def TabI (w : World) (g : Nat) (f : Nat → Int) : Prop := g < w.heap.size ∧ w.cell? ⟨g, 0, none⟩ = some (.int .i64 (f 0)) ∧ w.cell? ⟨g, 1, none⟩ = some (.int .i64 (f 1)) ∧ w.cell? ⟨g, 2, none⟩ = some (.int .i64 (f 2)) ∧ w.cell? ⟨g, 3, none⟩ = some (.int .i64 (f 3)) ∧
  w.cell? ⟨g, 4, none⟩ = some (.int .i64 (f 4)) ∧ w.cell? ⟨g, 5, none⟩ = some (.int .i64 (f 5)) ∧ w.cell? ⟨g, 6, none⟩ = some (.int .i64 (f 6)) ∧ w.cell? ⟨g, 7, none⟩ = some (.int .i64 (f 7))
theorem TabI.below {w w' : World} {g : Nat} {f : Nat → Int} (h : TabI w g f) (hb : Below w.heap.size w w') : TabI w' g f := by
  obtain ⟨hl, c0, c1, c2, c3, c4, c5, c6, c7⟩ := h
  have e := fun o => hb.cell (p := ⟨g, o, none⟩) hl
  exact ⟨Nat.lt_of_lt_of_le hl hb.size, (e 0).trans c0, (e 1).trans c1, (e 2).trans c2, (e 3).trans c3, (e 4).trans c4, (e 5).trans c5, (e 6).trans c6, (e 7).trans c7⟩
theorem TabI.of {w : World} {g : Nat} {f : Nat → Int} {t : TypeId} (h : w.heap[g]? = some (.cells #[Value.int .i64 (f 0), Value.int .i64 (f 1), Value.int .i64 (f 2), Value.int .i64 (f 3), Value.int .i64 (f 4), Value.int .i64 (f 5), Value.int .i64 (f 6), Value.int .i64 (f 7)] t (0, 0))) : TabI w g f := by
  refine ⟨lt_blk h, ?_, ?_, ?_, ?_, ?_, ?_, ?_, ?_⟩ <;> (rw [cell_of_block h]; rfl)
theorem TabI.at {w : World} {g : Nat} {f : Nat → Int} (h : TabI w g f) (k : Nat) (hk : k < 8) : w.cell? ⟨g, k, none⟩ = some (.int .i64 (f k)) := by
  obtain ⟨hl, c0, c1, c2, c3, c4, c5, c6, c7⟩ := h
  rcases (show k = 0 ∨ k = 1 ∨ k = 2 ∨ k = 3 ∨ k = 4 ∨ k = 5 ∨ k = 6 ∨ k = 7 from by omega) with rfl | rfl | rfl | rfl | rfl | rfl | rfl | rfl
  · exact c0
  · exact c1
  · exact c2
  · exact c3
  · exact c4
  · exact c5
  · exact c6
  · exact c7
theorem ret_arrI {fn : Func} {p : Tmp} (h : fn.results = #[.cell p 88]) (tmps : Array Value) (w : World) (g : Nat) (t : TypeId) (x0 x1 x2 x3 x4 x5 x6 x7 : Value)
    (hp : tmps.getD p undef = .pointer (some ⟨g, 0, none⟩)) (hw : w.heap[g]? = some (.cells #[x0, x1, x2, x3, x4, x5, x6, x7] t (0, 0))) :
    (results fn tmps).run Try.prog w = .ok (.agg #[x0, x1, x2, x3, x4, x5, x6, x7]) w := by
  have c0 := cell_of_block hw 0
  have c1 := cell_of_block hw 1
  have c2 := cell_of_block hw 2
  have c3 := cell_of_block hw 3
  have c4 := cell_of_block hw 4
  have c5 := cell_of_block hw 5
  have c6 := cell_of_block hw 6
  have c7 := cell_of_block hw 7
  have hr : (results fn tmps).run Try.prog w = ((asAddr (tmps.getD p undef)).run Try.prog w).andThen fun a w₁ => (loadVar 88 a).run Try.prog w₁ := by
    simp only [results, h]
    simp [Sem.run_bind, Result.andThen]
  rw [hr, hp]
  simp [go_sem] at c0 c1 c2 c3 c4 c5 c6 c7 ⊢
  simp [c0, c1, c2, c3, c4, c5, c6, c7, go_sem]
/-- the numbers of the groups of so many voters, no others -/
def upI (v : Int) (f : Nat → Int) (j : Nat) : Int := if (j : Int) < pw v then f j else 0
theorem ptI_up (v : Int) (k : Nat) (f : Nat → Int) (h : (k : Int) = pw v) (j : Nat) : ptI k f j = upI v f j := by
  unfold ptI upI
  rw [← h]
  simp
/-- how many voters each group has -/
def szF (k : Nat) : Int := ((wt k : Nat) : Int)
/-- the groups of at least so many voters -/
def quF (v q : Int) (k : Nat) : Bool := decide (q ≤ upI v szF k)
/-- the sum of 2 to each of the first groups of a set -/
def wsK (f : Nat → Bool) : Nat → Nat
  | 0 => 0
  | g + 1 => if f g = true then wsK f g ||| 2 ^ g else wsK f g
theorem wsK_yes {f : Nat → Bool} {g : Nat} (h : f g = true) : wsK f (g + 1) = wsK f g ||| 2 ^ g := if_pos h
theorem wsK_no {f : Nat → Bool} {g : Nat} (h : f g = false) : wsK f (g + 1) = wsK f g := if_neg (by rw [h]; decide)
theorem wsK_lt (f : Nat → Bool) : ∀ k, wsK f k < 2 ^ k
  | 0 => by simp [wsK]
  | k + 1 => by
    have h := wsK_lt f k
    have h2 : 2 ^ k < 2 ^ (k + 1) := Nat.pow_lt_pow_right (by omega) (by omega)
    rw [wsK]
    split
    · exact Nat.or_lt_two_pow (by omega) h2
    · omega
/-- the sum of 2 to each of the first groups of at least so many voters -/
def rqK (q : Int) : Nat → Nat
  | 0 => 0
  | g + 1 => if q ≤ szF g then rqK q g + 2 ^ g else rqK q g
theorem rqK_yes {q : Int} {g : Nat} (h : q ≤ szF g) : rqK q (g + 1) = rqK q g + 2 ^ g := if_pos h
theorem rqK_no {q : Int} {g : Nat} (h : ¬ q ≤ szF g) : rqK q (g + 1) = rqK q g := if_neg h
theorem rqK_lt (q : Int) : ∀ k, rqK q k < 2 ^ k
  | 0 => by simp [rqK]
  | k + 1 => by
    have h := rqK_lt q k
    rw [rqK, Nat.pow_succ]
    split <;> omega
theorem ws_rq {f : Nat → Bool} {q : Int} {n : Nat} (h : ∀ g, g < n → f g = decide (q ≤ szF g)) : ∀ k, k ≤ n → wsK f k = rqK q k
  | 0, _ => rfl
  | k + 1, hk => by
    have ih := ws_rq h k (by omega)
    have hf := h k (by omega)
    by_cases hq : q ≤ szF k
    · rw [decide_eq_true hq] at hf
      rw [wsK_yes hf, rqK_yes hq, ih]
      have := Nat.two_pow_add_eq_or_of_lt (rqK_lt q k) 1
      rw [Nat.mul_one] at this
      rw [Nat.add_comm, this, Nat.or_comm]
    · rw [decide_eq_false hq] at hf
      rw [wsK_no hf, rqK_no hq, ih]
theorem ws_end {f : Nat → Bool} {n : Nat} (h : ∀ g, n ≤ g → f g = false) : ∀ k, wsK f (n + k) = wsK f n
  | 0 => rfl
  | k + 1 => by
    rw [← Nat.add_assoc, wsK_no (h (n + k) (by omega)), ws_end h k]
/-- the number of Wins of a quota -/
def rqN (v q : Int) : Nat := rqK q (pw v).toNat
theorem ws_quota {v : Int} (q : Int) (hv : 1 ≤ v ∧ v ≤ 3) : wsK (upT v (quF v q)) 8 = rqN v q := by
  have p1 := pw_pos v
  have p2 := pw_le3 v hv.2
  have e : 8 = (pw v).toNat + (8 - (pw v).toNat) := by omega
  rw [e, ws_end (n := (pw v).toNat) (fun g hg => by unfold upT; rw [decide_eq_false (by omega)]; rfl)]
  refine ws_rq (n := (pw v).toNat) (fun g hg => ?_) _ (Nat.le_refl _)
  unfold upT quF upI
  rw [decide_eq_true (show (g : Int) < pw v by omega), if_pos (show (g : Int) < pw v by omega), Bool.true_and]
theorem rqN_lt {v q : Int} (hv : 1 ≤ v ∧ v ≤ 3) : rqN v q < 2 ^ (pw v).toNat ∧ rqN v q < 256 := by
  have p2 := pw_le3 v hv.2
  have h := rqK_lt q (pw v).toNat
  have h2 : 2 ^ (pw v).toNat ≤ 2 ^ 8 := Nat.pow_le_pow_right (by omega) (by omega)
  exact ⟨h, Nat.lt_of_lt_of_le h h2⟩
def RqOk (n : Int) (zs : List Int) (v : Int) (qs : List Int) : Prop := vsB n zs = true ∧ (1 ≤ v ∧ v ≤ 3) ∧ quotasB n v qs = true
instance (n : Int) (zs : List Int) (v : Int) (qs : List Int) : Decidable (RqOk n zs v qs) := by unfold RqOk; infer_instance
/-- what RuleOfQuotas gives -/
def rqO (n : Int) (zs : List Int) (v : Int) (qs : List Int) : Bool := decide (RqOk n zs v qs)
def rqV (n : Int) (zs : List Int) (v : Int) (qs : List Int) : Int := if RqOk n zs v qs then v else 0
def rqL (v : Int) (qs : List Int) : List Nat := qs.map (rqN v)
def rqW (n : Int) (zs : List Int) (v : Int) (qs : List Int) : List Int := if RqOk n zs v qs then ci (rqL v qs) else []
/-- what a call leaves that gives a rule of its own memory, and whether -/
def GivesR (n : Int) (zs : List Int) (o : Bool) (w : World) (e : Ending) (w' : World) : Prop := ∃ v, e = .returned (.tuple #[.agg #[.int .i64 n, v], .bool o]) ∧ Owns w' w.heap.size v zs ∧ Below w.heap.size w w'
theorem rq_no {n v : Int} {zs qs : List Int} {w W : World} (h : ¬ RqOk n zs v qs) (hb : Below w.heap.size w W) : GivesR (rqV n zs v qs) (rqW n zs v qs) (rqO n zs v qs) w (.returned (.tuple #[.agg #[.int .i64 0, .slice none 0 0], .bool false])) W := by
  unfold rqV rqW rqO
  rw [if_neg h, if_neg h, decide_eq_false h]
  exact ⟨_, rfl, World.ownsRow_nil _ _ _ _, hb⟩
theorem rq_yes {n v : Int} {zs qs : List Int} {w W : World} {s : Value} (h : RqOk n zs v qs) (ho : Owns W w.heap.size s (ci (rqL v qs))) (hb : Below w.heap.size w W) : GivesR (rqV n zs v qs) (rqW n zs v qs) (rqO n zs v qs) w (.returned (.tuple #[.agg #[.int .i64 v, s], .bool true])) W := by
  unfold rqV rqW rqO
  rw [if_pos h, if_pos h, decide_eq_true h]
  exact ⟨_, rfl, ho, hb⟩
theorem ret_ruleB {fn : Func} {p u : Tmp} (h : fn.results = #[.cell p 27, .tmp u]) (tmps : Array Value) (w : World) (g : Nat) (x y : Value)
    (hp : tmps.getD p undef = .pointer (some ⟨g, 0, none⟩)) (hw : w.heap[g]? = some (.cells #[x, y] 27 (0, 0))) :
    (results fn tmps).run Try.prog w = .ok (.tuple #[.agg #[x, y], tmps.getD u undef]) w := by
  have c0 := cell_of_block hw 0
  have c1 := cell_of_block hw 1
  rw [results_cell_tmp h, hp]
  simp [go_sem] at c0 c1 ⊢
  simp [c0, c1, go_sem]
set_option maxHeartbeats 1000000 in
theorem tableOfI_any (f : Nat → Int) (v : Int) (w : World) (hv : 1 ≤ v ∧ v ≤ 3)
    (hf : ∀ (k : Nat) (w' : World), (k : Int) < pw v → Below w.heap.size w w' → Calls Try.prog 87 #[.int .i64 k] w' fun e w'' => e = .returned (.int .i64 (f k)) ∧ Below w'.heap.size w' w'') :
    Calls Try.prog 86 #[.int .i64 v, .func (.func 87) #[] #[]] w fun e w' => e = .returned (.agg #[Value.int .i64 (upI v f 0), Value.int .i64 (upI v f 1), Value.int .i64 (upI v f 2), Value.int .i64 (upI v f 3), Value.int .i64 (upI v f 4), Value.int .i64 (upI v f 5), Value.int .i64 (upI v f 6), Value.int .i64 (upI v f 7)]) ∧ Below w.heap.size w w' := by
  have HF := hide hf
  clear hf
  have p1 := pw_pos v
  have p2 := pw_le3 v hv.2
  have h1 := hv.1
  go_enter Try.func86, Try.ntmps86
  go_wp2_with fail
  rw [wrap_pow v (by omega)]
  go_loopw [9] (fun i wr => ∃ k : Nat, (k : Int) ≤ pw v ∧ i = .int .i64 k ∧ wr.heap[w.heap.size]? = some (.cells #[Value.int .i64 (ptI 0 f 0), Value.int .i64 (ptI 0 f 1), Value.int .i64 (ptI 0 f 2), Value.int .i64 (ptI 0 f 3), Value.int .i64 (ptI 0 f 4), Value.int .i64 (ptI 0 f 5), Value.int .i64 (ptI 0 f 6), Value.int .i64 (ptI 0 f 7)] 88 (0, 0)) ∧
      wr.heap[w.heap.size + 1]? = some (.cells #[Value.int .i64 (ptI k f 0), Value.int .i64 (ptI k f 1), Value.int .i64 (ptI k f 2), Value.int .i64 (ptI k f 3), Value.int .i64 (ptI k f 4), Value.int .i64 (ptI k f 5), Value.int .i64 (ptI k f 6), Value.int .i64 (ptI k f 7)] 88 (0, 0)) ∧ Below w.heap.size w wr) (fun i _ => 8 - (intOf i).toNat)
  case atStart => exact ⟨0, by omega, rfl, blk_below (ptI_start w f _) (bel1 _ _), by have h := ptI_start (w.alloc (.cells #[.int .i64 0, .int .i64 0, .int .i64 0, .int .i64 0, .int .i64 0, .int .i64 0, .int .i64 0, .int .i64 0] 88)) f 88; rwa [World.size_alloc] at h, bel2 _ _ _⟩
  case round =>
    obtain ⟨k, hk, rfl, hr, ht, hb⟩ := hrel
    by_cases hlt : (k : Int) < pw v
    · have hk8 : k < 8 := by omega
      have HR := hide hr
      have HT := hide ht
      have HB := hide hb
      have hlb := lt_blk ht
      clear hr ht hb
      go_wp2_with fail
      refine (HF.out _ _ hlt HB.out).mono ?_
      rintro e w1 ⟨rfl, hb1⟩
      have ht1 := blk_below HT.out hb1
      have hck := (TabI.of ht1).at k hk8
      have hfz := free_blk ht1 k
      have HT1 := hide ht1
      clear ht1
      go_wp2
      go_roundw
      case rel => exact ⟨k + 1, by omega, by go_num, (heap_setCell_other _ _ _ _ (by simp)).trans (blk_below HR.out hb1), ptI_blk hk8 HT1.out, (bnext HB.out hb1).setCell (by simp) _⟩
      case measure => simp only [intOf]; omega
    · have hkv : (k : Int) = pw v := by omega
      have ⟨_, t0, t1, t2, t3, t4, t5, t6, t7⟩ := TabI.of ht
      have ⟨hrl, r0, r1, r2, r3, r4, r5, r6, r7⟩ := TabI.of hr
      have fz := free_blk hr
      have HR := hide hr
      have HT := hide ht
      have HKV := hide hkv
      clear hkv ht hr
      go_wp2
      refine bodyPost_ret (v := .agg #[Value.int .i64 (ptI k f 0), Value.int .i64 (ptI k f 1), Value.int .i64 (ptI k f 2), Value.int .i64 (ptI k f 3), Value.int .i64 (ptI k f 4), Value.int .i64 (ptI k f 5), Value.int .i64 (ptI k f 6), Value.int .i64 (ptI k f 7)]) (ret_arrI (p := 4) rfl _ _ w.heap.size _ _ _ _ _ _ _ _ _ rfl (set8_blk HR.out _ _ _ _ _ _ _ _)) rfl ⟨?_, set8_below hb (Nat.le_refl _) _ _ _ _ _ _ _ _⟩
      simp only [ptI_up v k f HKV.out]
set_option maxHeartbeats 1000000 in
theorem tableOfQ_any (f : Nat → Bool) (v : Int) (g g' : Nat) (w : World) (hv : 1 ≤ v ∧ v ≤ 3)
    (hf : ∀ (k : Nat) (w' : World), (k : Int) < pw v → Below w.heap.size w w' → Calls Try.prog 90 #[.int .i64 k, .pointer (some ⟨g, 0, none⟩), .pointer (some ⟨g', 0, none⟩)] w' fun e w'' => e = .returned (.bool (f k)) ∧ Below w'.heap.size w' w'') :
    Calls Try.prog 89 #[.int .i64 v, .func (.func 90) #[] #[.pointer (some ⟨g, 0, none⟩), .pointer (some ⟨g', 0, none⟩)]] w fun e w' => e = .returned (.agg #[Value.bool (upT v f 0), Value.bool (upT v f 1), Value.bool (upT v f 2), Value.bool (upT v f 3), Value.bool (upT v f 4), Value.bool (upT v f 5), Value.bool (upT v f 6), Value.bool (upT v f 7)]) ∧ Below w.heap.size w w' := by
  have HF := hide hf
  clear hf
  have p1 := pw_pos v
  have p2 := pw_le3 v hv.2
  have h1 := hv.1
  go_enter Try.func89, Try.ntmps89
  go_wp2_with fail
  rw [wrap_pow v (by omega)]
  go_loopw [9] (fun i wr => ∃ k : Nat, (k : Int) ≤ pw v ∧ i = .int .i64 k ∧ wr.heap[w.heap.size]? = some (.cells #[Value.bool (pt 0 f 0), Value.bool (pt 0 f 1), Value.bool (pt 0 f 2), Value.bool (pt 0 f 3), Value.bool (pt 0 f 4), Value.bool (pt 0 f 5), Value.bool (pt 0 f 6), Value.bool (pt 0 f 7)] 68 (0, 0)) ∧
      wr.heap[w.heap.size + 1]? = some (.cells #[Value.bool (pt k f 0), Value.bool (pt k f 1), Value.bool (pt k f 2), Value.bool (pt k f 3), Value.bool (pt k f 4), Value.bool (pt k f 5), Value.bool (pt k f 6), Value.bool (pt k f 7)] 68 (0, 0)) ∧ Below w.heap.size w wr) (fun i _ => 8 - (intOf i).toNat)
  case atStart => exact ⟨0, by omega, rfl, blk_below (pt_start w f _) (bel1 _ _), by have h := pt_start (w.alloc (.cells #[.bool false, .bool false, .bool false, .bool false, .bool false, .bool false, .bool false, .bool false] 68)) f 68; rwa [World.size_alloc] at h, bel2 _ _ _⟩
  case round =>
    obtain ⟨k, hk, rfl, hr, ht, hb⟩ := hrel
    by_cases hlt : (k : Int) < pw v
    · have hk8 : k < 8 := by omega
      have HR := hide hr
      have HT := hide ht
      have HB := hide hb
      have hlb := lt_blk ht
      clear hr ht hb
      go_wp2_with fail
      refine (HF.out _ _ hlt HB.out).mono ?_
      rintro e w1 ⟨rfl, hb1⟩
      have ht1 := blk_below HT.out hb1
      have hck := (Tab.of ht1).at k hk8
      have hfz := free_blk ht1 k
      have HT1 := hide ht1
      clear ht1
      go_wp2
      go_roundw
      case rel => exact ⟨k + 1, by omega, by go_num, (heap_setCell_other _ _ _ _ (by simp)).trans (blk_below HR.out hb1), pt_blk hk8 HT1.out, (bnext HB.out hb1).setCell (by simp) _⟩
      case measure => simp only [intOf]; omega
    · have hkv : (k : Int) = pw v := by omega
      have ⟨_, t0, t1, t2, t3, t4, t5, t6, t7⟩ := Tab.of ht
      have ⟨hrl, r0, r1, r2, r3, r4, r5, r6, r7⟩ := Tab.of hr
      have fz := free_blk hr
      have HR := hide hr
      have HT := hide ht
      have HKV := hide hkv
      clear hkv ht hr
      go_wp2
      refine bodyPost_ret (v := .agg #[Value.bool (pt k f 0), Value.bool (pt k f 1), Value.bool (pt k f 2), Value.bool (pt k f 3), Value.bool (pt k f 4), Value.bool (pt k f 5), Value.bool (pt k f 6), Value.bool (pt k f 7)]) (ret_arr (p := 4) rfl _ _ w.heap.size _ _ _ _ _ _ _ _ _ rfl (set8_blk HR.out _ _ _ _ _ _ _ _)) rfl ⟨?_, set8_below hb (Nat.le_refl _) _ _ _ _ _ _ _ _⟩
      simp only [pt_up v k f HKV.out]
theorem roq1_any (k : Nat) (w : World) (hk : k < 8) : Calls Try.prog 87 #[.int .i64 k] w fun e w' => e = .returned (.int .i64 (szF k)) ∧ Below w.heap.size w w' := by
  have h16 : k < 16 := by omega
  go_enter Try.func87, Try.ntmps87
  go_wp2_with (go_at_call 79; refine (onesCount_any _ _ h16).mono ?_; rintro e w' ⟨rfl, rfl⟩)
  go_ret
  exact ⟨rfl, Below.refl _ _⟩
theorem roq2_any (v q : Int) (k g g' : Nat) (w : World) (hk : k < 8) (ht : TabI w g (upI v szF)) (hc : w.cell? ⟨g', 0, none⟩ = some (.int .i64 q)) :
    Calls Try.prog 90 #[.int .i64 k, .pointer (some ⟨g, 0, none⟩), .pointer (some ⟨g', 0, none⟩)] w fun e w' => e = .returned (.bool (quF v q k)) ∧ Below w.heap.size w w' := by
  have hcm := ht.at k hk
  obtain ⟨z, hz⟩ : ∃ z, z = upI v szF k := ⟨_, rfl⟩
  have HQ : Hid (quF v q k = decide (q ≤ z)) := by unfold Hid quF; rw [hz]
  rw [← hz] at hcm
  clear hz ht
  go_enter Try.func90, Try.ntmps90
  go_wp2_with fail
  go_region
  go_wp2
  go_ret
  exact ⟨ret_bool HQ.out.symm, bdrew' (Below.refl _ _)⟩
set_option maxHeartbeats 2000000 in
theorem winsOf_any (f : Nat → Bool) (w : World) : Calls Try.prog 88 #[.agg #[Value.bool (f 0), Value.bool (f 1), Value.bool (f 2), Value.bool (f 3), Value.bool (f 4), Value.bool (f 5), Value.bool (f 6), Value.bool (f 7)]] w fun e w' => e = .returned (.int .i64 ((wsK f 8 : Nat) : Int)) ∧ Below w.heap.size w w' := by
  have T0 := Tab.new w f 69
  obtain ⟨hl, t0, t1, t2, t3, t4, t5, t6, t7⟩ := T0
  have HB := hide (bel1 w (.cells #[Value.bool (f 0), Value.bool (f 1), Value.bool (f 2), Value.bool (f 3), Value.bool (f 4), Value.bool (f 5), Value.bool (f 6), Value.bool (f 7)] 69))
  go_enter Try.func88, Try.ntmps88
  go_wp2_with fail
  go_loopw [3, 7] (fun u i wr => ∃ k : Nat, k ≤ 8 ∧ i = .int .i64 k ∧ u = .int .i64 ((wsK f k : Nat) : Int) ∧ Below w.heap.size w wr) (fun _ i _ => 8 - (intOf i).toNat)
  case atStart => exact ⟨0, by omega, rfl, rfl, HB.out⟩
  case round =>
    obtain ⟨k, hk, rfl, rfl, hb⟩ := hrel
    have HB2 := hide hb
    clear hb
    by_cases hlt : k < 8
    · have hx := idx_at f k hlt
      have hws := wsK_lt f k
      have p8 : 2 ^ k < 2 ^ 8 := Nat.pow_lt_pow_right (by omega) hlt
      obtain ⟨z, hz⟩ : ∃ z, f k = z := ⟨_, rfl⟩
      rw [hz] at hx
      obtain ⟨u, hu⟩ : ∃ u, wsK f k = u := ⟨_, rfl⟩
      cases z with
      | false =>
        have HN := hide (wsK_no hz)
        clear hz
        rw [hu] at HN
        go_wp2_with fail
        go_roundw
        case rel => exact ⟨k + 1, by omega, by go_num, by rw [HN.out, hu], HB2.out⟩
        case measure => simp only [intOf]; omega
      | true =>
        have HN := hide (wsK_yes hz)
        have HE := hide (show bits .or .i64 ((wsK f k : Nat) : Int) (wrap64 ((2 : Int) ^ k)) = ((wsK f (k + 1) : Nat) : Int) from by
          have e : wrap64 ((2 : Int) ^ k) = ((2 ^ k : Nat) : Int) := by
            rw [IntWalk.wrap64_in]
            · simp
            · have : ((2 : Int) ^ k) = ((2 ^ k : Nat) : Int) := by simp
              rw [this]
              omega
          rw [e, or_gen _ _ (by omega) (by omega), wsK_yes hz])
        clear hz hws p8 hu HN
        go_wp2_with fail
        go_roundw
        case rel => exact ⟨k + 1, by omega, by go_num, by rw [← HE.out], HB2.out⟩
        case measure => simp only [intOf]; omega
    · obtain rfl : k = 8 := by omega
      go_wp2
      go_ret
      exact ⟨rfl, HB2.out⟩
end Go.Proofs.Ytnmfhnieknckcaa

/- RqI: RuleOfQuotas of the program. -/
namespace Go.Proofs.Ytnmfhnieknckcaa
open Go.RowKit Go.Joins

/-- the numbers of the first quotas, zeros behind -/
def rqS (v : Int) (qs : List Int) (k : Nat) : List Nat := (List.range k).foldl (fun r j => r.set j (rqN v (qs.getD j 0))) (List.replicate qs.length 0)
theorem rqS_succ (v : Int) (qs : List Int) (k : Nat) : rqS v qs (k + 1) = (rqS v qs k).set k (rqN v (qs.getD k 0)) := by
  unfold rqS; rw [List.range_succ, List.foldl_append]; rfl
theorem rqS_len (v : Int) (qs : List Int) : ∀ k, (rqS v qs k).length = qs.length
  | 0 => by simp [rqS]
  | k + 1 => by rw [rqS_succ, List.length_set, rqS_len v qs k]
theorem rqS_at (v : Int) (qs : List Int) : ∀ k i, k ≤ qs.length → i < qs.length → (rqS v qs k)[i]? = some (if i < k then rqN v (qs.getD i 0) else 0)
  | 0, i, _, hi => by simp [rqS, hi]
  | k + 1, i, hk, hi => by
    rw [rqS_succ, List.getElem?_set, rqS_len]
    by_cases e : k = i
    · subst e
      rw [if_pos rfl, if_pos hi, if_pos (by omega)]
    · rw [if_neg e, rqS_at v qs k i (by omega) hi]
      by_cases h : i < k
      · rw [if_pos h, if_pos (by omega)]
      · rw [if_neg h, if_neg (by omega)]
theorem rqS_end (v : Int) (qs : List Int) : rqS v qs qs.length = rqL v qs := by
  apply List.ext_getElem?
  intro i
  by_cases hi : i < qs.length
  · rw [rqS_at v qs qs.length i (Nat.le_refl _) hi, if_pos hi]
    unfold rqL
    rw [List.getElem?_map, List.getElem?_eq_getElem hi, getD_lt hi]
    rfl
  · rw [List.getElem?_eq_none (by rw [rqS_len]; omega), List.getElem?_eq_none (by unfold rqL; rw [List.length_map]; omega)]
theorem TabI.move {w w' : World} {g : Nat} {f : Nat → Int} (h : TabI w g f) (hs : w.heap.size ≤ w'.heap.size) (hk : ∀ o v, w.cell? ⟨g, o, none⟩ = some v → w'.cell? ⟨g, o, none⟩ = some v) : TabI w' g f := by
  obtain ⟨hl, c0, c1, c2, c3, c4, c5, c6, c7⟩ := h
  exact ⟨Nat.lt_of_lt_of_le hl hs, hk _ _ c0, hk _ _ c1, hk _ _ c2, hk _ _ c3, hk _ _ c4, hk _ _ c5, hk _ _ c6, hk _ _ c7⟩
set_option maxHeartbeats 8000000 in
set_option maxRecDepth 100000 in
theorem implRuleOfQuotas_any (n v : Int) (a l : Option Addr) (cap capl : Nat) (zs qs : List Int) (w : World) (hi : Ints w a zs) (hj : Ints w l qs) (hn : zs.length ≤ 1048576) (hm : qs.length ≤ 1048576) :
    Calls Try.prog 28 #[.agg #[.int .i64 n, .slice a zs.length cap], .int .i64 v, .slice l qs.length capl] w (GivesR (rqV n zs v qs) (rqW n zs v qs) (rqO n zs v qs) w) := by
  obtain ⟨i0, hi0, hz0, hz1, hz2⟩ := info_parts info_int
  have S0 := (SV.new w n a zs cap l qs 25 hi hj).below (bel1 _ (.cells #[.int .i64 0, .slice none 0 0] 27))
  have hres := new_blk (w.alloc (.cells #[.int .i64 n, .slice a zs.length cap] 25)) #[.int .i64 0, .slice none 0 0] 27
  simp only [World.size_alloc] at hres
  have HRES := hide hres
  have HS0 := hide S0
  obtain ⟨⟨_, c0, c1⟩, _⟩ := S0.pair
  clear hi hj hres S0
  by_cases hs : vsB n zs = false
  · have HNO := hide (show ¬ RqOk n zs v qs from fun h => by rw [h.1] at hs; cases hs)
    have HV := hide hs
    clear hs
    go_enter Try.func28, Try.ntmps28
    go_wp2_with fail
    refine (implVSq_was _ _ _ _ false _ HS0.out.2.1 hn HV.out).mono ?_
    rintro e w1 ⟨rfl, hb⟩
    have hr1 := blk_below HRES.out hb
    have f0 := unfrozen_of_block hr1 0
    have f1 := unfrozen_of_block hr1 1
    have r0 := cell_of_block hr1 0
    have r1 := cell_of_block hr1 1
    have HR1 := hide hr1
    have HB := hide (HS0.out.below hb).2.2.2
    clear hr1 hb HS0 HRES c0 c1
    go_wp2
    refine bodyPost_ret (ret_ruleB rfl _ _ _ _ _ rfl (block_setCell (i := 1) (block_setCell (i := 0) HR1.out _) _)) rfl ?_
    exact rq_no HNO.out ((HB.out.setCell (p := ⟨w.heap.size + 1, 0, none⟩) (by show w.heap.size ≤ w.heap.size + 1; omega) _).setCell (p := ⟨w.heap.size + 1, 1, none⟩) (by show w.heap.size ≤ w.heap.size + 1; omega) _)
  · have hs : vsB n zs = true := by simpa using hs
    have HVS := hide hs
    by_cases hv : 1 ≤ v ∧ v ≤ 3
    · have HV := hide hv
      have p1 := pw_pos v
      have p2 := pw_le3 v hv.2
      by_cases hq : quotasB n v qs = false
      · have HNO := hide (show ¬ RqOk n zs v qs from fun h => by rw [h.2.2] at hq; cases hq)
        have HQ := hide hq
        clear hs hq hv
        go_enter Try.func28, Try.ntmps28
        go_wp2_with fail
        refine (implVSq_was _ _ _ _ true _ HS0.out.2.1 hn HVS.out).mono ?_
        rintro e w1 ⟨rfl, hb⟩
        have HR1 := hide (blk_below HRES.out hb)
        have HS1 := hide (HS0.out.below hb)
        clear hb HS0 HRES c0 c1
        obtain ⟨⟨_, c0, c1⟩, _⟩ := HS1.out.pair
        go_wp2_with (go_at_call 53; refine (validVoters_yes _ _ HV.out).mono ?_; rintro e w' ⟨rfl, rfl⟩)
        refine (implVQ_was _ _ _ _ _ _ _ _ false _ HS1.out.2.2.1 hm HQ.out).mono ?_
        rintro e w2 ⟨rfl, hb⟩
        have hr1 := blk_below HR1.out hb
        have f0 := unfrozen_of_block hr1 0
        have f1 := unfrozen_of_block hr1 1
        have r0 := cell_of_block hr1 0
        have r1 := cell_of_block hr1 1
        have HR2 := hide hr1
        have HB := hide (HS1.out.below hb).2.2.2
        clear hr1 hb HS1 HR1 c0 c1
        go_wp2
        refine bodyPost_ret (ret_ruleB rfl _ _ _ _ _ rfl (block_setCell (i := 1) (block_setCell (i := 0) HR2.out _) _)) rfl ?_
        exact rq_no HNO.out ((HB.out.setCell (p := ⟨w.heap.size + 1, 0, none⟩) (by show w.heap.size ≤ w.heap.size + 1; omega) _).setCell (p := ⟨w.heap.size + 1, 1, none⟩) (by show w.heap.size ≤ w.heap.size + 1; omega) _)
      · have hq : quotasB n v qs = true := by simpa using hq
        have HOK := hide (show RqOk n zs v qs from ⟨hs, hv, hq⟩)
        have HQ := hide hq
        have hql := (quotas_in hq).2
        have hn4 := (valid_of hs).1
        have hql4 : qs.length ≤ 4 := by omega
        clear hs hq hv hn4 hql
        go_enter Try.func28, Try.ntmps28
        go_wp2_with fail
        refine (implVSq_was _ _ _ _ true _ HS0.out.2.1 hn HVS.out).mono ?_
        rintro e w1 ⟨rfl, hb⟩
        have HR1 := hide (blk_below HRES.out hb)
        have HS1 := hide (HS0.out.below hb)
        clear hb HS0 HRES c0 c1
        obtain ⟨⟨_, c0, c1⟩, _⟩ := HS1.out.pair
        go_wp2_with (go_at_call 53; refine (validVoters_yes _ _ HV.out).mono ?_; rintro e w' ⟨rfl, rfl⟩)
        refine (implVQ_was _ _ _ _ _ _ _ _ true _ HS1.out.2.2.1 hm HQ.out).mono ?_
        rintro e w2 ⟨rfl, hb⟩
        have HR2 := hide (blk_below HR1.out hb)
        have HS2 := hide (HS1.out.below hb)
        clear hb HS1 HR1 c0 c1
        go_wp2_with fail
        refine (tableOfI_any szF v _ HV.out (fun k w' hk _ => roq1_any k w' (by omega))).mono ?_
        rintro e w3 ⟨rfl, hb⟩
        have HR3 := hide (blk_below HR2.out hb)
        have HS3 := hide (HS2.out.below hb)
        clear hb HS2 HR2
        have hw3 : w.heap.size + 1 < w3.heap.size := lt_blk HR3.out
        go_wp2_with (at_make; refine wpList_make_full _ rfl _ _ 23 rfl (w3.heap.size + 1) 3 i0 (.int .i64 0) 1 Try.underlying23 hi0 hz0 hz1 _ _ _ _ qs.length rfl rfl (by first | omega | (simp; omega)) (by first | omega | (simp; omega)) ?b2 ?b3 (by simp) ?_)
        case b2 => rw [hz2]; omega
        case b3 => unfold maxLen; omega
        intro w0 hown0 hgrow0
        rw [madeInts] at hown0
        have hB0 : w3.heap.size + 1 < w0.heap.size := (hown0.lt (w3.heap.size + 1) rfl).2
        have B30 := (bel1 w3 (.cells #[Value.int .i64 (upI v szF 0), Value.int .i64 (upI v szF 1), Value.int .i64 (upI v szF 2), Value.int .i64 (upI v szF 3), Value.int .i64 (upI v szF 4), Value.int .i64 (upI v szF 5), Value.int .i64 (upI v szF 6), Value.int .i64 (upI v szF 7)] 88)).grown hgrow0 (by simp) (fun k h => by cases h)
        have B03 := hide (bnext B30 (bel1 w0 (.cells #[.int .i64 v, .slice (some ⟨w3.heap.size + 1, 0, none⟩) qs.length qs.length] 27)))
        have hT0 := new_blk w3 #[Value.int .i64 (upI v szF 0), Value.int .i64 (upI v szF 1), Value.int .i64 (upI v szF 2), Value.int .i64 (upI v szF 3), Value.int .i64 (upI v szF 4), Value.int .i64 (upI v szF 5), Value.int .i64 (upI v szF 6), Value.int .i64 (upI v szF 7)] 88
        have hT1 := (hgrow0.block w3.heap.size (by simp) (by simp)).trans hT0
        have HT4 := hide ((TabI.of hT1).below (bel1 w0 (.cells #[.int .i64 v, .slice (some ⟨w3.heap.size + 1, 0, none⟩) qs.length qs.length] 27)))
        have HRU := hide (new_blk w0 #[.int .i64 v, .slice (some ⟨w3.heap.size + 1, 0, none⟩) qs.length qs.length] 27)
        have D0 := hide (LDs.start hown0 (bel1 w0 (.cells #[.int .i64 v, .slice (some ⟨w3.heap.size + 1, 0, none⟩) qs.length qs.length] 27)))
        clear hown0 hgrow0 B30 hT0 hT1
        go_wp2_with fail
        obtain ⟨R, hR⟩ : ∃ R, R = w0.heap.size := ⟨_, rfl⟩
        obtain ⟨W4, hW4⟩ : ∃ W4, W4 = w0.alloc (.cells #[.int .i64 v, .slice (some ⟨w3.heap.size + 1, 0, none⟩) qs.length qs.length] 27) := ⟨_, rfl⟩
        rw [← hW4] at B03 HT4 HRU D0 ⊢
        rw [← hR] at HRU hB0 ⊢
        clear hW4 hR
        go_loopw [37] (fun i wr => ∃ k : Nat, k ≤ qs.length ∧ i = .int .i64 k ∧ LDs W4 (w3.heap.size + 1) qs.length (rqS v qs k) wr) (fun i _ => qs.length - (intOf i).toNat)
        case atStart => exact ⟨0, Nat.zero_le _, rfl, D0.out⟩
        case round =>
          clear D0
          obtain ⟨k, hk, rfl, hc⟩ := hrel
          by_cases hlt : k < qs.length
          · obtain ⟨lb, lo, rfl, hbl, hcc⟩ := HS3.out.2.2.1 (by omega)
            obtain ⟨q, hqe⟩ : ∃ q, qs.getD k 0 = q := ⟨_, rfl⟩
            have x0 := hcc k hlt
            rw [hqe] at x0
            have x1 := hc.keep ((B03.out.cell (p := ⟨lb, lo + k, none⟩) hbl).trans x0) (by show lb ≠ w3.heap.size + 1; omega)
            have HQE := hide hqe
            have hc5 := hc.below (bel1 wr (.cells #[.int .i64 q] 3))
            have hRN : R ≠ w3.heap.size + 1 := by omega
            have xr := hc5.keep (cell_of_block HRU.out 1) (show R ≠ w3.heap.size + 1 from hRN)
            have hsz : W4.heap.size ≤ wr.heap.size := hc.2.1.size
            have hRW := lt_blk HRU.out
            have hqn : (wr.alloc (.cells #[.int .i64 q] 3)).cell? ⟨wr.heap.size, 0, none⟩ = some (.int .i64 q) := by simp [go_sem]
            have HTB := hide (show ∀ w', Below (wr.alloc (.cells #[.int .i64 q] 3)).heap.size (wr.alloc (.cells #[.int .i64 q] 3)) w' → TabI w' w3.heap.size (upI v szF) ∧ w'.cell? ⟨wr.heap.size, 0, none⟩ = some (.int .i64 q) from fun w' hb' =>
              ⟨((HT4.out.move (w' := wr.alloc (.cells #[.int .i64 q] 3)) (by simp; omega) (fun o u hu => hc5.keep hu (by show w3.heap.size ≠ w3.heap.size + 1; omega)))).below hb', (hb'.cell (p := ⟨wr.heap.size, 0, none⟩) (by simp)).trans hqn⟩)
            have HC5 := hide hc5
            have HXR := hide xr
            have HWQ := hide (ws_quota q HV.out)
            clear hcc x0 hqe hc hc5 hqn
            go_wp2_with fail
            go_region_held3 (fun w' => w'.cell? ⟨R, 1, none⟩ = some (.slice (some ⟨w3.heap.size + 1, 0, none⟩) qs.length qs.length)) (first | go_keep | exact HK7.out _ | exact HK6.out | exact HK5.out | exact HXR.out)
              ((first
                | (go_at_call 89; refine (tableOfQ_any (quF v q) v w3.heap.size wr.heap.size _ HV.out (fun k w' hk hb' => roq2_any v q k w3.heap.size wr.heap.size w' (by omega) (HTB.out w' (bnext (belD _) hb')).1 (HTB.out w' (bnext (belD _) hb')).2)).mono ?_; rintro e w5 ⟨rfl, b5⟩; have HK5 := hide ((b5.cell (p := ⟨R, 1, none⟩) (by simp; omega)).trans HXR.out); have D5 := hide (HC5.out.drew.below b5); clear b5)
                | (go_at_call 88; refine (winsOf_any (upT v (quF v q)) _).mono ?_; rintro e w6 ⟨rfl, b6⟩; rw [HWQ.out]; have HK6 := hide ((b6.cell (p := ⟨R, 1, none⟩) (World.block_lt_of_cell? _ _ HK5.out)).trans HK5.out); have D6 := hide (D5.out.below b6); have hat := D6.out.at hlt; obtain ⟨y0, y1⟩ := hat; have HK7 := hide (show ∀ u, (w6.setCell ⟨w3.heap.size + 1, k, none⟩ u).cell? ⟨R, 1, none⟩ = some (.slice (some ⟨w3.heap.size + 1, 0, none⟩) qs.length qs.length) from fun u => cell_of_block ((Below.heap_setCell w6 ⟨w3.heap.size + 1, k, none⟩ u R hRN).trans ((D6.out.2.1.block R hRW (by simp; omega)).trans HRU.out)) 1); clear b6)))
            all_goals
              go_wp2
              go_roundw
              case rel => exact ⟨k + 1, by omega, by go_num, by rw [rqS_succ, HQE.out]; exact D6.out.store (rqN_lt HV.out).2⟩
              case measure => simp only [intOf]; omega
          · obtain rfl : k = qs.length := by omega
            rw [rqS_end] at hc
            have q0 := hc.keep (cell_of_block HRU.out 0) (by show R ≠ w3.heap.size + 1; omega)
            have q1 := hc.keep (cell_of_block HRU.out 1) (by show R ≠ w3.heap.size + 1; omega)
            have hr4 := blk_below HR3.out (B03.out.mono (by omega))
            have hr5 := (hc.2.1.block _ (lt_blk hr4) (by simp; omega)).trans hr4
            have f0 := unfrozen_of_block hr5 0
            have f1 := unfrozen_of_block hr5 1
            have r0 := cell_of_block hr5 0
            have r1 := cell_of_block hr5 1
            have HR5 := hide hr5
            have HC := hide hc
            clear hr4 hr5 hc
            go_wp2
            refine bodyPost_ret (ret_ruleB rfl _ _ _ _ _ rfl (block_setCell (i := 1) (block_setCell (i := 0) HR5.out _) _)) rfl ?_
            refine rq_yes HOK.out ?_ ?_
            · have e1 : (ci (rqL v qs)).length = qs.length := by
                rw [ci_len]
                unfold rqL
                rw [List.length_map]
              have ho : Owns wr (w3.heap.size + 1) (.slice (some ⟨w3.heap.size + 1, 0, none⟩) qs.length qs.length) (ci (rqL v qs)) := by
                unfold Owns
                rw [e1]
                exact HC.out.1
              exact ((ho.setBelow (p := ⟨w.heap.size + 1, 0, none⟩) (by show w.heap.size + 1 < w3.heap.size + 1; omega) _).setBelow (p := ⟨w.heap.size + 1, 1, none⟩) (by show w.heap.size + 1 < w3.heap.size + 1; omega) _).le (by omega)
            · have hB := bgrown (bnext HS3.out.2.2.2 B03.out) HC.out.2.1 (bnext HS3.out.2.2.2 B03.out).size (fun j hj => by cases hj; omega)
              exact (hB.setCell (p := ⟨w.heap.size + 1, 0, none⟩) (by show w.heap.size ≤ w.heap.size + 1; omega) _).setCell (p := ⟨w.heap.size + 1, 1, none⟩) (by show w.heap.size ≤ w.heap.size + 1; omega) _
    · have HNO := hide (show ¬ RqOk n zs v qs from fun h => hv h.2.1)
      have HV := hide hv
      clear hs hv
      go_enter Try.func28, Try.ntmps28
      go_wp2_with fail
      refine (implVSq_was _ _ _ _ true _ HS0.out.2.1 hn HVS.out).mono ?_
      rintro e w1 ⟨rfl, hb⟩
      have hr1 := blk_below HRES.out hb
      have f0 := unfrozen_of_block hr1 0
      have f1 := unfrozen_of_block hr1 1
      have r0 := cell_of_block hr1 0
      have r1 := cell_of_block hr1 1
      have HR1 := hide hr1
      have HB := hide (HS0.out.below hb).2.2.2
      clear hr1 hb HS0 HRES c0 c1
      go_wp2_with (go_at_call 53; refine (validVoters_no _ _ HV.out).mono ?_; rintro e w' ⟨rfl, rfl⟩)
      refine bodyPost_ret (ret_ruleB rfl _ _ _ _ _ rfl (block_setCell (i := 1) (block_setCell (i := 0) HR1.out _) _)) rfl ?_
      exact rq_no HNO.out ((HB.out.setCell (p := ⟨w.heap.size + 1, 0, none⟩) (by show w.heap.size ≤ w.heap.size + 1; omega) _).setCell (p := ⟨w.heap.size + 1, 1, none⟩) (by show w.heap.size ≤ w.heap.size + 1; omega) _)
end Go.Proofs.Ytnmfhnieknckcaa

/- RqS: RuleOfQuotas of the model. -/
namespace Go.Proofs.Ytnmfhnieknckcaa
open Go.RowKit Go.Joins

/-- the rule under way -/
def RuI (w4 : World) (G : Nat) (v : Int) (vv : Value) (os : List Int) (wq : World) : Prop :=
  wq.heap[G]? = some (.cells #[.int .i64 v, vv] 27 (0, 0)) ∧ Owns wq (G + 1) vv os ∧ Below w4.heap.size w4 wq ∧ w4.heap.size ≤ G
theorem RuI.below {w4 : World} {G : Nat} {v : Int} {vv : Value} {os : List Int} {wq w' : World} (h : RuI w4 G v vv os wq) (hb : Below wq.heap.size wq w') : RuI w4 G v vv os w' :=
  ⟨(hb.block _ (lt_of_block h.1)).trans h.1, h.2.1.below hb, bnext h.2.2.1 hb, h.2.2.2⟩
theorem RuI.push {w4 : World} {G : Nat} {v z : Int} {vv v' : Value} {os : List Int} {wq w5 : World} (h : RuI w4 G v vv os wq) (hg : wq.grownBy w5 vv.ownBlock)
    (ho : w5.ownsRow (G + 1) 3 1 v' (os.length + 1) (os.map (Value.int .i64) ++ [.int .i64 z])) : RuI w4 G v v' (os ++ [z]) (w5.setCell ⟨G, 1, none⟩ v') ∧ w5.heap[G]? = some (.cells #[.int .i64 v, vv] 27 (0, 0)) := by
  obtain ⟨h1, h2, h3, h4⟩ := h
  have hge := own_ge h2
  have hl := lt_of_block h1
  have hb : w5.heap[G]? = some (.cells #[.int .i64 v, vv] 27 (0, 0)) := (hg.block _ hl (fun e => by have := hge _ e.symm; omega)).trans h1
  exact ⟨⟨block_setCell (i := 1) hb _, (Owns.push ho).setBelow (p := ⟨G, 1, none⟩) (by show G < G + 1; omega) _, (bgrown h3 hg h3.size (fun k hk => by have := hge k hk; omega)).setCell (p := ⟨G, 1, none⟩) (by show w4.heap.size ≤ G; omega) _, h4⟩, hb⟩
set_option maxHeartbeats 8000000 in
set_option maxRecDepth 100000 in
theorem specRuleOfQuotas_any (n v : Int) (a l : Option Addr) (cap capl : Nat) (zs qs : List Int) (w : World) (hi : Ints w a zs) (hj : Ints w l qs) (hn : zs.length ≤ 1048576) (hm : qs.length ≤ 1048576) :
    Calls Try.prog 33 #[.agg #[.int .i64 n, .slice a zs.length cap], .int .i64 v, .slice l qs.length capl] w (GivesR (rqV n zs v qs) (rqW n zs v qs) (rqO n zs v qs) w) := by
  obtain ⟨i0, hi0, hz0, hz1, hz2⟩ := info_parts info_int
  have S0 := (SV.new w n a zs cap l qs 25 hi hj).below (bel1 _ (.cells #[.int .i64 0, .slice none 0 0] 27))
  have hres := new_blk (w.alloc (.cells #[.int .i64 n, .slice a zs.length cap] 25)) #[.int .i64 0, .slice none 0 0] 27
  simp only [World.size_alloc] at hres
  have HRES := hide hres
  have HS0 := hide S0
  obtain ⟨⟨_, c0, c1⟩, _⟩ := S0.pair
  clear hi hj hres S0
  by_cases hs : vsB n zs = false
  · have HNO := hide (show ¬ RqOk n zs v qs from fun h => by rw [h.1] at hs; cases hs)
    have HV := hide hs
    clear hs
    go_enter Try.func33, Try.ntmps33
    go_wp2_with fail
    refine (specVSq_was _ _ _ _ false _ HS0.out.2.1 hn HV.out).mono ?_
    rintro e w1 ⟨rfl, hb⟩
    have hr1 := blk_below HRES.out hb
    have f0 := unfrozen_of_block hr1 0
    have f1 := unfrozen_of_block hr1 1
    have r0 := cell_of_block hr1 0
    have r1 := cell_of_block hr1 1
    have HR1 := hide hr1
    have HB := hide (HS0.out.below hb).2.2.2
    clear hr1 hb HS0 HRES c0 c1
    go_wp2
    refine bodyPost_ret (ret_ruleB rfl _ _ _ _ _ rfl (block_setCell (i := 1) (block_setCell (i := 0) HR1.out _) _)) rfl ?_
    exact rq_no HNO.out ((HB.out.setCell (p := ⟨w.heap.size + 1, 0, none⟩) (by show w.heap.size ≤ w.heap.size + 1; omega) _).setCell (p := ⟨w.heap.size + 1, 1, none⟩) (by show w.heap.size ≤ w.heap.size + 1; omega) _)
  · have hs : vsB n zs = true := by simpa using hs
    have HVS := hide hs
    by_cases hv : 1 ≤ v ∧ v ≤ 3
    · have HV := hide hv
      have HVR := hide (decide_eq_true hv)
      have hv1 := hv.1
      have hv2 := hv.2
      have p1 := pw_pos v
      have p2 := pw_le3 v hv.2
      by_cases hq : quotasB n v qs = false
      · have HNO := hide (show ¬ RqOk n zs v qs from fun h => by rw [h.2.2] at hq; cases hq)
        have HQ := hide hq
        clear hs hq hv
        go_enter Try.func33, Try.ntmps33
        go_wp2_with fail
        refine (specVSq_was _ _ _ _ true _ HS0.out.2.1 hn HVS.out).mono ?_
        rintro e w1 ⟨rfl, hb⟩
        have HR1 := hide (blk_below HRES.out hb)
        have HS1 := hide (HS0.out.below hb)
        clear hb HS0 HRES c0 c1
        obtain ⟨⟨_, c0, c1⟩, _⟩ := HS1.out.pair
        go_wp2_with (go_at_call 80; refine (inR_was _ _ _ true _ HVR.out).mono ?_; rintro e w' ⟨rfl, rfl⟩)
        refine (specVQ_was _ _ _ _ _ _ _ _ false _ HS1.out.2.2.1 hm HQ.out).mono ?_
        rintro e w2 ⟨rfl, hb⟩
        have hr1 := blk_below HR1.out hb
        have f0 := unfrozen_of_block hr1 0
        have f1 := unfrozen_of_block hr1 1
        have r0 := cell_of_block hr1 0
        have r1 := cell_of_block hr1 1
        have HR2 := hide hr1
        have HB := hide (HS1.out.below hb).2.2.2
        clear hr1 hb HS1 HR1 c0 c1
        go_wp2
        refine bodyPost_ret (ret_ruleB rfl _ _ _ _ _ rfl (block_setCell (i := 1) (block_setCell (i := 0) HR2.out _) _)) rfl ?_
        exact rq_no HNO.out ((HB.out.setCell (p := ⟨w.heap.size + 1, 0, none⟩) (by show w.heap.size ≤ w.heap.size + 1; omega) _).setCell (p := ⟨w.heap.size + 1, 1, none⟩) (by show w.heap.size ≤ w.heap.size + 1; omega) _)
      · have hq : quotasB n v qs = true := by simpa using hq
        have HOK := hide (show RqOk n zs v qs from ⟨hs, hv, hq⟩)
        have hql := (quotas_in hq).2
        have hn4 := (valid_of hs).1
        have hql4 : qs.length ≤ 4 := by omega
        obtain rfl : n = (qs.length : Int) := by omega
        have HQ := hide hq
        obtain ⟨A, hA⟩ : ∃ A : Nat, (pw v).toNat = A := ⟨_, rfl⟩
        have hA2 : pw v = (A : Int) := by omega
        have hA8 : A ≤ 8 := by omega
        have HA := hide hA2
        have HA1 := hide hA
        clear hs hq hv hn4 hql hA hA2 p1 p2
        go_enter Try.func33, Try.ntmps33
        go_wp2_with fail
        refine (specVSq_was _ _ _ _ true _ HS0.out.2.1 hn HVS.out).mono ?_
        rintro e w1 ⟨rfl, hb⟩
        have HR1 := hide (blk_below HRES.out hb)
        have HS1 := hide (HS0.out.below hb)
        clear hb HS0 HRES c0 c1
        obtain ⟨⟨_, c0, c1⟩, _⟩ := HS1.out.pair
        go_wp2_with (go_at_call 80; refine (inR_was _ _ _ true _ HVR.out).mono ?_; rintro e w' ⟨rfl, rfl⟩)
        refine (specVQ_was _ _ _ _ _ _ _ _ true _ HS1.out.2.2.1 hm HQ.out).mono ?_
        rintro e w2 ⟨rfl, hb⟩
        have HR2 := hide (blk_below HR1.out hb)
        have HS2 := hide (HS1.out.below hb)
        clear hb HS1 HR1 c0 c1
        have hw2 : w.heap.size + 1 < w2.heap.size := lt_blk HR2.out
        go_wp2_with fail
        have O0 : RuI w2 w2.heap.size v (.slice none 0 0) [] (w2.alloc (.cells #[.int .i64 v, .slice none 0 0] 27)) := ⟨heap_alloc_new w2 _, World.ownsRow_nil _ _ _ _, bel1 _ _, Nat.le_refl _⟩
        obtain ⟨G, hG⟩ : ∃ G, G = w2.heap.size := ⟨_, rfl⟩
        rw [← hG] at O0 ⊢
        have hGw : w.heap.size + 1 < G := by omega
        clear hG hw2
        go_loopw [9] (fun i wq => ∃ (j : Nat) (vv : Value) (os : List Int), j ≤ qs.length ∧ i = .int .i64 j ∧ os = ci (rqL v (qs.take j)) ∧ RuI w2 G v vv os wq) (fun i _ => qs.length - (intOf i).toNat)
        case atStart => exact ⟨0, _, [], Nat.zero_le _, rfl, by simp [ci, rqL], O0⟩
        case round =>
          clear O0
          obtain ⟨j, vv, os, hj, rfl, hos, hs⟩ := hrel
          have hsr := HS2.out.below hs.2.2.1
          have HOS := hide hos
          have hol : os.length ≤ 4 := by
            rw [hos, ci_len]
            unfold rqL
            rw [List.length_map, List.length_take]
            omega
          obtain ⟨va, vc, rfl, _, _⟩ := hs.2.1.form
          clear hos
          obtain ⟨⟨_, c0, c1⟩, _⟩ := hsr.pair
          by_cases hlt : j < qs.length
          · obtain ⟨lb, lo, rfl, hbl, hcc⟩ := hsr.2.2.1 (by omega)
            have hck := hcc j hlt
            obtain ⟨q, hqe⟩ : ∃ q, qs.getD j 0 = q := ⟨_, rfl⟩
            rw [hqe] at hck
            have HQE := hide hqe
            have HBL := hide hbl
            have HCK := hide hck
            have HS := hide hs
            have hGl := lt_of_block hs.1
            clear hcc hqe hbl hck hs hsr
            obtain ⟨wo, hwo⟩ : ∃ wo : World, wo = wr := ⟨_, rfl⟩
            subst hwo
            go_wp2_with fail
            clear c0 c1
            go_loopw [10, 11] (fun u g wq => ∃ t y : Nat, t ≤ A ∧ g = .int .i64 t ∧ u = .int .i64 y ∧ y = rqK q t ∧ Below wo.heap.size wo wq) (fun _ g _ => 8 - (intOf g).toNat)
            case atStart => exact ⟨0, 0, Nat.zero_le _, rfl, rfl, rfl, Below.refl _ _⟩
            case round =>
              obtain ⟨t, y, ht, rfl, rfl, hy, BI⟩ := hrel
              have hyl := rqK_lt q t
              have hy2 : 2 ^ t ≤ 2 ^ 8 := Nat.pow_le_pow_right (by omega) (by omega)
              have hyr : y < 256 := by omega
              have HY := hide hy
              clear hy hyl hy2
              have hck := (BI.cell (p := ⟨lb, lo + j, none⟩) HBL.out).trans HCK.out
              have BIH := hide BI
              by_cases hlt2 : t < A
              · have t1 := pw_pos (t : Int)
                have t2 := pw_le8 (t : Int) (by omega)
                obtain ⟨s, hse⟩ : ∃ s, wt t = s := ⟨_, rfl⟩
                have HSE := hide hse
                have HPT : Hid (pw (t : Int) = ((2 ^ t : Nat) : Int)) := by unfold Hid pw; rw [Int.toNat_natCast]
                obtain ⟨pt, hpt⟩ : ∃ pt : Nat, pt = 2 ^ t := ⟨_, rfl⟩
                have hpt8 : pt < 256 := by
                  have h8 : 2 ^ t ≤ 2 ^ 7 := Nat.pow_le_pow_right (by omega) (by omega)
                  omega
                have HPT2 := hide hpt
                have HPT3 : Hid (pw (t : Int) = (pt : Int)) := by unfold Hid; rw [HPT.out, hpt]
                clear hpt hse BI
                by_cases hqs : q ≤ (s : Int)
                · have HYK := hide (rqK_yes (q := q) (g := t) (by unfold szF; rw [HSE.out]; exact hqs))
                  go_wp2_with (go_at_call 64; refine (powerL_any v _ (by omega) (by omega)).mono ?_; rintro e w' ⟨rfl, rfl⟩; rw [HA.out])
                  go_quiet ((go_at_call 83; exact quiet_left (weightQ_was t s _ (by omega) HSE.out)))
                  go_wp2_with (go_at_call 64; refine (powerL_any _ _ (by omega) (by omega)).mono ?_; rintro e w' ⟨rfl, rfl⟩; rw [HPT3.out])
                  go_roundw
                  case rel => exact ⟨t + 1, y + pt, by omega, by go_num, by go_num, by rw [HYK.out, HY.out, HPT2.out], bnext BIH.out (belN _ _)⟩
                  case measure => simp only [intOf]; omega
                · have HYK := hide (rqK_no (q := q) (g := t) (by unfold szF; rw [HSE.out]; exact hqs))
                  go_wp2_with (go_at_call 64; refine (powerL_any v _ (by omega) (by omega)).mono ?_; rintro e w' ⟨rfl, rfl⟩; rw [HA.out])
                  go_quiet ((go_at_call 83; exact quiet_left (weightQ_was t s _ (by omega) HSE.out)))
                  go_wp2
                  go_roundw
                  case rel => exact ⟨t + 1, y, by omega, by go_num, by go_num, by rw [HYK.out]; exact HY.out, bnext BIH.out (belN _ _)⟩
                  case measure => simp only [intOf]; omega
              · obtain rfl : t = A := by omega
                have hs := HS.out.below BI
                have g1 := cell_of_block hs.1 1
                have f1 := unfrozen_of_block hs.1 1
                have hown := hs.2.1
                have hGl2 := lt_of_block hs.1
                have HSS := hide hs
                clear hs BI hck
                go_wp2_with (first
                  | (go_at_call 64; refine (powerL_any v _ (by omega) (by omega)).mono ?_; rintro e w' ⟨rfl, rfl⟩; rw [HA.out])
                  | (at_builtin; refine wpList_append_own _ rfl _ _ 23 rfl (G + 1) 3 i0 (.int .i64 0) 1 8 Try.underlying23 hi0 hz0 hz1 hz2 rfl (by decide) _ _ _ rfl (hown.alloc _) ⟨wr.heap.size, 0, none⟩ 1 1 [.int .i64 y] rfl rfl (cell_one_new wr _ _) (by intro u hu; simp at hu; subst hu; rfl) (by unfold maxLen; omega) (by omega) (by first | omega | (simp; omega)) ?_))
                intro v' w5 hown' hgrow _
                obtain ⟨HP, hb5⟩ := (HSS.out.below (bel1 wr (.cells #[.int .i64 y] 3))).push hgrow hown'
                obtain ⟨zz, hzz⟩ : ∃ zz : List Int, zz = os ++ [(y : Int)] := ⟨_, rfl⟩
                rw [← hzz] at HP
                have HZ : Hid (zz = ci (rqL v (qs.take (j + 1)))) := by
                  unfold Hid
                  rw [hzz, List.take_add_one, List.getElem?_eq_getElem hlt, HOS.out, HY.out, ← HA1.out]
                  have e1 := HQE.out
                  rw [getD_lt hlt] at e1
                  rw [e1]
                  unfold rqL ci rqN
                  simp
                obtain ⟨av', cv', rfl, _, _⟩ := HP.2.1.form
                have f5 := unfrozen_of_block hb5 1
                have g5 := cell_of_block hb5 1
                have HQ2 := hide HP
                clear hown hown' hgrow hb5 HP hzz g1 f1
                go_wp2
                go_roundw
                case rel => exact ⟨j + 1, _, zz, by omega, by go_num, HZ.out, HQ2.out⟩
                case measure => simp only [intOf]; omega
          · obtain rfl : j = qs.length := by omega
            have e := HOS.out
            rw [List.take_length] at e
            have HE := hide e
            have q0 := cell_of_block hs.1 0
            have q1 := cell_of_block hs.1 1
            have hr5 := (hs.2.2.1.block _ (lt_blk HR2.out)).trans HR2.out
            have f0 := unfrozen_of_block hr5 0
            have f1 := unfrozen_of_block hr5 1
            have r0 := cell_of_block hr5 0
            have r1 := cell_of_block hr5 1
            have HR5 := hide hr5
            have HS := hide hs
            clear hr5 hs e hsr
            go_wp2
            refine bodyPost_ret (ret_ruleB rfl _ _ _ _ _ rfl (block_setCell (i := 1) (block_setCell (i := 0) HR5.out _) _)) rfl ?_
            refine rq_yes HOK.out ?_ ?_
            · rw [← HE.out]
              exact ((HS.out.2.1.setBelow (p := ⟨w.heap.size + 1, 0, none⟩) (by show w.heap.size + 1 < G + 1; omega) _).setBelow (p := ⟨w.heap.size + 1, 1, none⟩) (by show w.heap.size + 1 < G + 1; omega) _).le (by omega)
            · exact ((bnext HS2.out.2.2.2 HS.out.2.2.1).setCell (p := ⟨w.heap.size + 1, 0, none⟩) (by show w.heap.size ≤ w.heap.size + 1; omega) _).setCell (p := ⟨w.heap.size + 1, 1, none⟩) (by show w.heap.size ≤ w.heap.size + 1; omega) _
    · have HNO := hide (show ¬ RqOk n zs v qs from fun h => hv h.2.1)
      have HVR := hide (decide_eq_false hv)
      clear hs hv
      go_enter Try.func33, Try.ntmps33
      go_wp2_with fail
      refine (specVSq_was _ _ _ _ true _ HS0.out.2.1 hn HVS.out).mono ?_
      rintro e w1 ⟨rfl, hb⟩
      have hr1 := blk_below HRES.out hb
      have f0 := unfrozen_of_block hr1 0
      have f1 := unfrozen_of_block hr1 1
      have r0 := cell_of_block hr1 0
      have r1 := cell_of_block hr1 1
      have HR1 := hide hr1
      have HB := hide (HS0.out.below hb).2.2.2
      clear hr1 hb HS0 HRES c0 c1
      go_wp2_with (go_at_call 80; refine (inR_was _ _ _ false _ HVR.out).mono ?_; rintro e w' ⟨rfl, rfl⟩)
      refine bodyPost_ret (ret_ruleB rfl _ _ _ _ _ rfl (block_setCell (i := 1) (block_setCell (i := 0) HR1.out _) _)) rfl ?_
      exact rq_no HNO.out ((HB.out.setCell (p := ⟨w.heap.size + 1, 0, none⟩) (by show w.heap.size ≤ w.heap.size + 1; omega) _).setCell (p := ⟨w.heap.size + 1, 1, none⟩) (by show w.heap.size ≤ w.heap.size + 1; omega) _)
end Go.Proofs.Ytnmfhnieknckcaa
