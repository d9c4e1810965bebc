/- Quotas: their check, in the model and in the program, in a seat with no votes (XQuotaV by another import). -/
import Derived.Test.YtklgganapphioaaSV
import Derived.Test.YtklgganapphioaaHas
import Derived.Deep.RegionHeld3
import Derived.Outline
import Derived.Deep.RegionWith
import Derived.Deep.QuietTactic
import Derived.BigQuiet
import Derived.Deep.DeepCutAuto
namespace Go.Proofs.Ytklgganapphioaa
open Go.RowKit Go.Joins

theorem any_true {p : Int → Bool} {zs : List Int} {k : Nat} (hk : k < zs.length) (h : p zs[k] = true) : zs.any p = true := List.any_eq_true.2 ⟨zs[k], mem_of_at hk, h⟩
theorem any_false {p : Int → Bool} {zs : List Int} (h : ∀ j, j < zs.length → p (zs.getD j 0) = false) : zs.any p = false := by
  rw [List.any_eq_false]
  intro x hx
  obtain ⟨j, hj, rfl⟩ := List.getElem_of_mem hx
  have := h j hj
  rw [getD_lt hj] at this
  simp [this]

/-- What slices.IndexFunc leaves, with a test p. -/
def IdxGPost (p : Int → Bool) (zs : List Int) (w : World) (e : Ending) (w' : World) : Prop :=
  ∃ r : Int, ((zs.any p = true ∧ 0 ≤ r) ∨ (zs.any p = false ∧ r = -1)) ∧ r ≤ 1048576 ∧ e = .returned (.int .i64 r) ∧ Below w.heap.size w w'

/-- a quota is one of 1 to k -/
def qOut (k q : Int) : Bool := decide (q < 1 ∨ k < q)
theorem qOut_no {k q : Int} (h : 1 ≤ q ∧ q ≤ k) : qOut k q = false := by simp [qOut]; omega
theorem qOut_yes {k q : Int} (h : ¬ (1 ≤ q ∧ q ≤ k)) : qOut k q = true := by simp [qOut]; omega
def QuotasOk (n k : Int) (qs : List Int) : Prop := (∀ j, j < qs.length → qOut k (qs.getD j 0) = false) ∧ (qs.length : Int) = n
instance (n k : Int) (qs : List Int) : Decidable (QuotasOk n k qs) := by unfold QuotasOk; infer_instance
def quotasB (n k : Int) (qs : List Int) : Bool := decide (QuotasOk n k qs)
theorem quotasB_true {n k : Int} {qs : List Int} (h : QuotasOk n k qs) : quotasB n k qs = true := by simpa [quotasB] using h
theorem quotasB_false {n k : Int} {qs : List Int} (h : ¬ QuotasOk n k qs) : quotasB n k qs = false := by simpa [quotasB] using h
theorem quotas_of {n k : Int} {qs : List Int} (h : quotasB n k qs = true) : QuotasOk n k qs := by simpa [quotasB] using h

set_option maxHeartbeats 1000000 in
theorem validQuotas_any (n k : Int) (a l : Option Addr) (cap capl len : Nat) (qs : List Int) (w : World) (hj : Ints w l qs) (hm : qs.length ≤ 1048576) :
    Calls Try.prog 79 #[.agg #[.int .i64 n, .slice a len cap], .int .i64 k, .slice l qs.length capl] w fun e w' => e = .returned (.bool (quotasB n k qs)) ∧ Below w.heap.size w w' := by
  have bx := Box.new w n a len cap 28
  have il := hj.below (bel1 w (.cells #[.int .i64 n, .slice a len cap] 28))
  clear hj
  obtain ⟨_, c0, c1⟩ := bx
  go_enter Try.func79, Try.ntmps79
  go_wp2_with fail
  go_loop [7] (fun i => ∃ j : Nat, j ≤ qs.length ∧ i = .int .i64 j ∧ (∀ t, t < j → qOut k (qs.getD t 0) = false)) (fun i => qs.length - (intOf i).toNat)
  case atStart => exact ⟨0, Nat.zero_le _, rfl, fun t ht => by omega⟩
  case round =>
    obtain ⟨j, hj, rfl, hall⟩ := hrel
    have HA := hide hall
    clear hall
    by_cases hlt : j < qs.length
    · obtain ⟨b, off, rfl, hbl, hc⟩ := il (by omega)
      have hck := hc j hlt
      rw [getD_lt hlt] at hck
      clear hc il
      by_cases he : 1 ≤ qs[j] ∧ qs[j] ≤ k
      · have HE := hide he
        clear he
        go_wp2_with (go_at_call 78; refine (inRange_yes _ _ _ _ HE.out).mono ?_; rintro e w' ⟨rfl, rfl⟩)
        go_round
        case rel => exact ⟨j + 1, by omega, by go_num, fun t ht => by
          rcases Nat.lt_or_ge t j with h | h
          · exact HA.out t h
          · obtain rfl : t = j := by omega
            rw [getD_lt hlt]
            exact qOut_no HE.out⟩
        case measure => simp only [intOf]; omega
      · have HN := hide (quotasB_false (n := n) (fun h : QuotasOk n k qs => by have := h.1 j hlt; rw [getD_lt hlt, qOut_yes he] at this; cases this))
        have HE := hide he
        clear he
        go_wp2_with (go_at_call 78; refine (inRange_no _ _ _ _ HE.out).mono ?_; rintro e w' ⟨rfl, rfl⟩)
        go_ret
        exact ⟨ret_bool HN.out.symm, bel1 w _⟩
    · obtain rfl : j = qs.length := by omega
      by_cases he : (qs.length : Int) = n
      · have hE : ((qs.length : Int) == n) = true := by simpa using he
        have HN := hide (quotasB_true (⟨HA.out, he⟩ : QuotasOk n k qs))
        clear he
        go_wp2
        go_ret
        exact ⟨ret_bool HN.out.symm, bel1 w _⟩
      · have hE : ((qs.length : Int) == n) = false := by simpa using he
        have HN := hide (quotasB_false (fun h : QuotasOk n k qs => he h.2))
        clear he
        go_wp2
        go_ret
        exact ⟨ret_bool HN.out.symm, bel1 w _⟩

set_option maxHeartbeats 1000000 in
theorem indexFuncQ_any (p : Int → Bool) (a : Option Addr) (cap g : Nat) (zs : List Int) (w : World) (hi : Ints w a zs) (hn : zs.length ≤ 1048576)
    (hf : ∀ (x : Int) (w' : World), x ∈ zs → Below w.heap.size w w' → Calls Try.prog 121 #[.int .i64 x, .pointer (some ⟨g, 0, none⟩)] w' fun e w'' => e = .returned (.bool (p x)) ∧ Below w'.heap.size w' w'') :
    Calls Try.prog 138 #[.slice a zs.length cap, .func (.func 121) #[] #[.pointer (some ⟨g, 0, none⟩)]] w (IdxGPost p zs w) := by
  have HF := hide hf
  clear hf
  go_enter Try.func138, Try.ntmps138
  go_wp2_with fail
  go_loopw [8] (fun i wr => ∃ k : Nat, k ≤ zs.length ∧ i = .int .i64 k ∧ (∀ j, j < k → p (zs.getD j 0) = false) ∧ Below w.heap.size w wr) (fun i _ => zs.length - (intOf i).toNat)
  case atStart => exact ⟨0, Nat.zero_le _, rfl, fun j hj => by omega, Below.refl _ _⟩
  case round =>
    obtain ⟨k, hk, rfl, hall, hb⟩ := hrel
    have HA := hide hall
    clear hall
    by_cases hlt : k < zs.length
    · obtain ⟨bb, off, rfl, hbl, hc⟩ := (hi.below hb) (by omega)
      have hck := hc k hlt
      rw [getD_lt hlt] at hck
      clear hc hi
      by_cases he : p zs[k] = true
      · have HF2 := hide (any_true hlt he)
        have HE := hide he
        clear he
        go_wp2_with fail
        refine (HF.out _ _ (mem_of_at hlt) hb).mono ?_
        rintro e w1 ⟨rfl, h1⟩
        have he := HE.out
        go_wp2
        go_ret
        exact ⟨k, .inl ⟨HF2.out, by omega⟩, by omega, rfl, bnext hb h1⟩
      · have he : p zs[k] = false := by simpa using he
        have HE := hide he
        clear he
        go_wp2_with fail
        refine (HF.out _ _ (mem_of_at hlt) hb).mono ?_
        rintro e w1 ⟨rfl, h1⟩
        have he := HE.out
        go_wp2
        go_roundw
        case rel => exact ⟨k + 1, by omega, by go_num, fun j hj => by
          rcases Nat.lt_or_ge j k with h | h
          · exact HA.out j h
          · obtain rfl : j = k := by omega
            rw [getD_lt hlt]
            exact HE.out, bnext hb h1⟩
        case measure => simp only [intOf]; omega
    · obtain rfl : k = zs.length := by omega
      go_wp2
      go_ret
      exact ⟨-1, .inr ⟨any_false HA.out, rfl⟩, by omega, rfl, hb⟩

set_option maxHeartbeats 1000000 in
theorem containsFuncQ_any (p : Int → Bool) (a : Option Addr) (cap g : Nat) (zs : List Int) (w : World) (hi : Ints w a zs) (hn : zs.length ≤ 1048576)
    (hf : ∀ (x : Int) (w' : World), x ∈ zs → Below w.heap.size w w' → Calls Try.prog 121 #[.int .i64 x, .pointer (some ⟨g, 0, none⟩)] w' fun e w'' => e = .returned (.bool (p x)) ∧ Below w'.heap.size w' w'') :
    Calls Try.prog 111 #[.slice a zs.length cap, .func (.func 121) #[] #[.pointer (some ⟨g, 0, none⟩)]] w fun e w' => e = .returned (.bool (zs.any p)) ∧ Below w.heap.size w w' := by
  have HF := hide hf
  clear hf
  by_cases hm : zs.any p = true
  · have HM := hide hm
    clear hm
    go_enter Try.func111, Try.ntmps111
    go_wp2_with fail
    refine (indexFuncQ_any p _ _ _ _ _ hi hn HF.out).mono ?_
    rintro e w' ⟨r, hr, hr2, rfl, hb⟩
    have h0 : 0 ≤ r := by
      rcases hr with ⟨_, h⟩ | ⟨h, _⟩
      · exact h
      · rw [HM.out] at h; cases h
    clear hr
    go_wp2
    go_ret
    exact ⟨ret_bool HM.out.symm, hb⟩
  · have hm : zs.any p = false := by simpa using hm
    have HM := hide hm
    clear hm
    go_enter Try.func111, Try.ntmps111
    go_wp2_with fail
    refine (indexFuncQ_any p _ _ _ _ _ hi hn HF.out).mono ?_
    rintro e w' ⟨r, hr, hr2, rfl, hb⟩
    have h0 : r < 0 := by
      rcases hr with ⟨h, _⟩ | ⟨_, h⟩
      · rw [HM.out] at h; cases h
      · omega
    clear hr
    go_wp2
    go_ret
    exact ⟨ret_bool (by rw [HM.out]; simp; omega), hb⟩

theorem quotaClosure_any (k q : Int) (g : Nat) (w : World) (hg : w.cell? ⟨g, 0, none⟩ = some (.int .i64 k)) :
    Calls Try.prog 121 #[.int .i64 q, .pointer (some ⟨g, 0, none⟩)] w fun e w' => e = .returned (.bool (qOut k q)) ∧ Below w.heap.size w w' := by
  by_cases h1 : q < 1
  · go_enter Try.func121, Try.ntmps121
    go_wp2
    go_ret
    exact ⟨ret_bool (by simp [qOut, h1]), Below.refl _ _⟩
  · by_cases h2 : k < q
    · go_enter Try.func121, Try.ntmps121
      go_wp2
      go_ret
      exact ⟨ret_bool (by simp [qOut, h2]), Below.refl _ _⟩
    · go_enter Try.func121, Try.ntmps121
      go_wp2
      go_ret
      exact ⟨ret_bool (by simp [qOut]; omega), Below.refl _ _⟩

theorem quotas_any {n k : Int} {qs : List Int} (hl : (qs.length : Int) = n) : quotasB n k qs = !(qs.any (qOut k)) := by
  by_cases h : ∀ j, j < qs.length → qOut k (qs.getD j 0) = false
  · rw [quotasB_true ⟨h, hl⟩, any_false h]; rfl
  · rw [quotasB_false (fun hh : QuotasOk n k qs => h hh.1)]
    cases ha : qs.any (qOut k)
    · exfalso
      apply h
      intro j hj
      rw [List.any_eq_false] at ha
      have := ha _ (mem_of_at hj)
      rw [getD_lt hj]
      simpa using this
    · rfl

set_option maxHeartbeats 1000000 in
theorem implValidQuotas_any (n k : Int) (a l : Option Addr) (cap capl len : Nat) (qs : List Int) (w : World) (hj : Ints w l qs) (hm : qs.length ≤ 1048576) :
    Calls Try.prog 83 #[.agg #[.int .i64 n, .slice a len cap], .int .i64 k, .slice l qs.length capl] w fun e w' => e = .returned (.bool (quotasB n k qs)) ∧ Below w.heap.size w w' := by
  have bx := (Box.new w n a len cap 28).below (bel1 (w.alloc (.cells #[.int .i64 n, .slice a len cap] 28)) (.cells #[.int .i64 k] 3))
  have hB := bel2 w (.cells #[.int .i64 n, .slice a len cap] 28) (.cells #[.int .i64 k] 3)
  have il := hj.below hB
  have kx : (((w.alloc (.cells #[.int .i64 n, .slice a len cap] 28)).alloc (.cells #[.int .i64 k] 3)).cell? ⟨w.heap.size + 1, 0, none⟩ = some (.int .i64 k)) ∧ w.heap.size + 1 < ((w.alloc (.cells #[.int .i64 n, .slice a len cap] 28)).alloc (.cells #[.int .i64 k] 3)).heap.size := ⟨by simp [go_sem], by simp⟩
  have KX := hide kx
  have IL := hide il
  have HB := hide hB
  obtain ⟨_, c0, c1⟩ := bx
  clear hj kx il hB
  by_cases hl : (qs.length : Int) = n
  · have hE : ((qs.length : Int) == n) = true := by simpa using hl
    have HN := hide (quotas_any (k := k) hl)
    clear hl
    go_enter Try.func83, Try.ntmps83
    go_wp2_with fail
    refine (containsFuncQ_any (qOut k) _ _ _ _ _ IL.out hm (fun x w' _ hb' => quotaClosure_any k _ _ _ ((hb'.cell (p := ⟨w.heap.size + 1, 0, none⟩) KX.out.2).trans KX.out.1))).mono ?_
    rintro e w2 ⟨rfl, hb2⟩
    go_wp2
    go_ret
    exact ⟨ret_bool HN.out.symm, bnext HB.out hb2⟩
  · have hE : ((qs.length : Int) == n) = false := by simpa using hl
    have HN := hide (quotasB_false (fun h : QuotasOk n k qs => hl h.2))
    clear hl
    go_enter Try.func83, Try.ntmps83
    go_wp2
    go_ret
    exact ⟨ret_bool HN.out.symm, HB.out⟩

end Go.Proofs.Ytklgganapphioaa
