/- The model's search for a group that is wronged, at each claim; WrongedBy and IsJust of the model. -/
import Derived.Test.YtgkaghappogglaaWroS
namespace Go.Proofs.Ytgkaghappogglaa
open Go.RowKit Go.Joins

def WroE (o : Option (Nat × Nat)) (e : Ending) : Prop := e = .returned (.tuple #[.int .i64 (scR o : Nat), .int .i64 (scL o : Nat)])
theorem wro_none {o : Option (Nat × Nat)} (h : o = none) : WroE o (.returned (.tuple #[.int .i64 0, .int .i64 0])) := by subst h; rfl
theorem wro_some {o : Option (Nat × Nat)} {l g : Nat} (h : o = some (l, g)) : WroE o (.returned (.tuple #[.int .i64 g, .int .i64 l])) := by subst h; rfl
theorem due_no1 {ms : List Int} {m n k l : Nat} (h : ms.length * k < l * n) : dueB ms m n k l = false := by unfold dueB; exact decide_eq_false (fun hh => by omega)
theorem due_no2 {ms : List Int} {m n k l : Nat} (h : pc (andL ms (2 ^ m - 1)) < l) : dueB ms m n k l = false := by unfold dueB; exact decide_eq_false (fun hh => by omega)
theorem due_yes {ms : List Int} {m n k l : Nat} (h : ¬ ms.length * k < l * n) (h2 : ¬ pc (andL ms (2 ^ m - 1)) < l) : dueB ms m n k l = true := by unfold dueB; exact decide_eq_true ⟨by omega, by omega⟩
theorem mul30 {a b : Nat} (ha : a ≤ 6) (hb : b ≤ 6) : a * b ≤ 36 := Nat.mul_le_mul ha hb
set_option maxHeartbeats 4000000 in
set_option maxRecDepth 100000 in
theorem wronged1_any (s : ByteArray) (n0 : (s.toList == [111, 110, 101]) = true) (m : Nat) (a : Option Addr) (cap : Nat) (bs : List Int) (k x : Nat) (w : World) (hi : Ints w a bs) (hl6 : bs.length ≤ 6) (hl1 : 1 ≤ bs.length) (hr : ∀ b ∈ bs, 0 ≤ b ∧ b ≤ 31) (hm5 : m ≤ 5) (hk5 : k ≤ 5) (hx : x < 32) :
    Calls Try.prog 90 #[.string s, .int .i64 m, .slice a bs.length cap, .int .i64 k, .int .i64 x] w fun e w' => WroE (scan (badB 1 bs m k x) (2 ^ bs.length) k 1) e ∧ w = w' := by
  have HR := hide hr
  clear hr
  obtain ⟨M, hM⟩ : ∃ M, M = 2 ^ bs.length := ⟨_, rfl⟩
  have hM64 : M ≤ 64 := by rw [hM]; exact pow_le6 _ hl6
  have hM1 : 1 ≤ M := by rw [hM]; exact Nat.two_pow_pos _
  have HPW : Hid (pw (bs.length : Int) = (M : Int)) := by unfold Hid; rw [pw_nat, hM]
  have HLEN : Hid (∀ g, g < M → (memL bs g).length = pc g) := fun g hg => memL_len hl6 (by rw [← hM]; exact hg)
  rw [← hM]
  obtain ⟨p, hp⟩ : ∃ p, p = badB 1 bs m k x := ⟨_, rfl⟩
  have HP := hide hp
  rw [← hp]
  clear hM hp
  go_enter Try.func90, Try.ntmps90
  go_wp2
  go_loop [13] (fun i => ∃ l : Nat, 1 ≤ l ∧ l ≤ k + 1 ∧ i = .int .i64 l ∧ Hid (scan p M k 1 = scan p M (k + 1 - l) l)) (fun i => k + 1 - (intOf i).toNat)
  case atStart => exact ⟨1, Nat.le_refl _, by omega, rfl, rfl⟩
  case round =>
    obtain ⟨l, hl1', hlk, rfl, HS⟩ := hrel
    by_cases hlt : l ≤ k
    · go_wp2
      go_loop [14] (fun i => ∃ g : Nat, 1 ≤ g ∧ g ≤ M ∧ i = .int .i64 g ∧ Hid (∀ z, z < g → p l z = false)) (fun i => M - (intOf i).toNat)
      case atStart => exact ⟨1, Nat.le_refl _, hM1, rfl, fun z hz => by
        obtain rfl : z = 0 := by omega
        rw [HP.out]
        exact bad_zero hl1 hl1'⟩
      case round =>
        obtain ⟨g, hg1, hg, rfl, HA⟩ := hrel
        by_cases hgM : g < M
        · have HNX := hide (fun (h : p l g = false) z (hz : z < g + 1) => (by
            rcases Nat.lt_or_ge z g with hzy | hzy
            · exact HA.out z hzy
            · obtain rfl : z = g := by omega
              exact h : p l z = false))
          have HG := hide (HLEN.out g hgM)
          have hpg := pc_le g
          have hN1 := hide (fun h => due_no1 (ms := memL bs g) (m := m) (n := bs.length) (k := k) (l := l) h)
          have hN2 := hide (fun h => due_no2 (ms := memL bs g) (m := m) (n := bs.length) (k := k) (l := l) h)
          have hY := hide (fun h1 h2 => due_yes (ms := memL bs g) (m := m) (n := bs.length) (k := k) (l := l) h1 h2)
          rw [HG.out] at hN1 hY
          have HB1 : Hid (dueB (memL bs g) m bs.length k l = false → p l g = false) := fun h => by rw [HP.out]; exact badB_due h
          have HB2 : Hid (dueB (memL bs g) m bs.length k l = true → p l g = wrongB 1 (memL bs g) l x) := fun h => by rw [HP.out]; exact badB_yes h
          obtain ⟨A1, hA1⟩ : ∃ A, A = pc g * k := ⟨_, rfl⟩
          obtain ⟨A2, hA2⟩ : ∃ A, A = l * bs.length := ⟨_, rfl⟩
          have hb1 : A1 ≤ 36 := by rw [hA1]; exact mul30 hpg (by omega)
          have hb2 : A2 ≤ 36 := by rw [hA2]; exact mul30 (by omega) hl6
          have HE1 : Hid ((pc g : Int) * (k : Int) = (A1 : Int)) := by unfold Hid; rw [hA1, Int.natCast_mul]
          have HE2 : Hid ((l : Int) * (bs.length : Int) = (A2 : Int)) := by unfold Hid; rw [hA2, Int.natCast_mul]
          rw [← hA1, ← hA2] at hN1 hY
          obtain ⟨u, hu⟩ : ∃ u, u = andL (memL bs g) (2 ^ m - 1) := ⟨_, rfl⟩
          have HU := hide hu
          have hu64 : u < 64 := by
            have h1 := andL_le (memL bs g) (2 ^ m - 1)
            have h2 : 2 ^ m ≤ 2 ^ 5 := Nat.pow_le_pow_right (by omega) hm5
            omega
          rw [← hu] at hN2 hY
          clear hA1 hA2 hu
          by_cases hc1 : A1 < A2
          · have HF := hide (HB1.out (hN1.out hc1))
            have he1 := HE1.out
            have he2 := HE2.out
            go_wp2_with (first
              | (go_at_call 89; refine (weight_any _ _ (by omega)).mono ?_; rintro e w' ⟨rfl, rfl⟩)
              | (go_at_call 77; refine (power_any _ _ (by omega) (by omega)).mono ?_; rintro e w' ⟨rfl, rfl⟩; rw [HPW.out])
              | (go_at_call 109; refine (agreed_any m _ _ _ g _ hi hl6 HR.out hm5 (by omega)).mono ?_; rintro e w' ⟨rfl, rfl⟩; rw [← HU.out]))
            go_round
            case rel => exact ⟨g + 1, by omega, by omega, by go_num, HNX.out HF.out⟩
            case measure => simp only [intOf]; omega
          · by_cases hc2 : pc u < l
            · have HF := hide (HB1.out (hN2.out hc2))
              have he1 := HE1.out
              have he2 := HE2.out
              go_wp2_with (first
                | (go_at_call 89; refine (weight_any _ _ (by omega)).mono ?_; rintro e w' ⟨rfl, rfl⟩)
                | (go_at_call 77; refine (power_any _ _ (by omega) (by omega)).mono ?_; rintro e w' ⟨rfl, rfl⟩; rw [HPW.out])
                | (go_at_call 109; refine (agreed_any m _ _ _ g _ hi hl6 HR.out hm5 (by omega)).mono ?_; rintro e w' ⟨rfl, rfl⟩; rw [← HU.out]))
              go_round
              case rel => exact ⟨g + 1, by omega, by omega, by go_num, HNX.out HF.out⟩
              case measure => simp only [intOf]; omega
            · have HW := hide (HB2.out (hY.out hc1 hc2))
              obtain ⟨t, ht⟩ : ∃ t, t = mostL (memL bs g) x 0 := ⟨_, rfl⟩
              have HT := hide ht
              have ht6 : t ≤ 6 := by rw [ht]; exact mostL_le _ _ 0 (by omega)
              by_cases hl : l = 1
              · have hle : ((l : Int) == 1) = true := by rw [hl]; rfl
                by_cases h0 : t = 0
                · have HT1 : Hid (p l g = true) := by
                    unfold Hid
                    rw [HW.out]
                    unfold wrongB
                    rw [if_pos rfl, decide_eq_true ⟨hl, by rw [← ht]; exact h0⟩]
                  have hte : ((t : Int) == 0) = true := by rw [h0]; rfl
                  clear ht hl h0
                  have HHIT := hide (scan_hit (p := p) (f := k - l) hgM HT1.out HA.out)
                  have HM : Hid (k - l + 1 = k + 1 - l) := by unfold Hid; omega
                  have he1 := HE1.out
                  have he2 := HE2.out
                  go_wp2_with (first
                        | (go_at_call 89; refine (weight_any _ _ (by omega)).mono ?_; rintro e w' ⟨rfl, rfl⟩)
                        | (go_at_call 77; refine (power_any _ _ (by omega) (by omega)).mono ?_; rintro e w' ⟨rfl, rfl⟩; rw [HPW.out])
                        | (go_at_call 109; refine (agreed_any m _ _ _ g _ hi hl6 HR.out hm5 (by omega)).mono ?_; rintro e w' ⟨rfl, rfl⟩; rw [← HU.out])
                        | (go_at_call 110; refine (most_any _ _ _ g x _ hi hl6 HR.out (by omega) hx).mono ?_; rintro e w' ⟨rfl, rfl⟩; rw [← HT.out]))
                  go_ret2
                  exact ⟨wro_some (by rw [HS.out, ← HM.out]; exact HHIT.out), rfl⟩
                · have HT0 : Hid (p l g = false) := by
                    unfold Hid
                    rw [HW.out]
                    unfold wrongB
                    rw [if_pos rfl, decide_eq_false (fun h => h0 (by rw [ht]; exact h.2))]
                  have hte : ((t : Int) == 0) = false := by simp; omega
                  clear ht hl h0
                  have he1 := HE1.out
                  have he2 := HE2.out
                  go_wp2_with (first
                        | (go_at_call 89; refine (weight_any _ _ (by omega)).mono ?_; rintro e w' ⟨rfl, rfl⟩)
                        | (go_at_call 77; refine (power_any _ _ (by omega) (by omega)).mono ?_; rintro e w' ⟨rfl, rfl⟩; rw [HPW.out])
                        | (go_at_call 109; refine (agreed_any m _ _ _ g _ hi hl6 HR.out hm5 (by omega)).mono ?_; rintro e w' ⟨rfl, rfl⟩; rw [← HU.out])
                        | (go_at_call 110; refine (most_any _ _ _ g x _ hi hl6 HR.out (by omega) hx).mono ?_; rintro e w' ⟨rfl, rfl⟩; rw [← HT.out]))
                  go_round
                  case rel => exact ⟨g + 1, by omega, by omega, by go_num, HNX.out HT0.out⟩
                  case measure => simp only [intOf]; omega
              · have HT0 : Hid (p l g = false) := by
                  unfold Hid
                  rw [HW.out]
                  unfold wrongB
                  rw [if_pos rfl, decide_eq_false (fun h => hl h.1)]
                have hle : ((l : Int) == 1) = false := by simp; omega
                clear ht hl
                have he1 := HE1.out
                have he2 := HE2.out
                go_wp2_with (first
                    | (go_at_call 89; refine (weight_any _ _ (by omega)).mono ?_; rintro e w' ⟨rfl, rfl⟩)
                    | (go_at_call 77; refine (power_any _ _ (by omega) (by omega)).mono ?_; rintro e w' ⟨rfl, rfl⟩; rw [HPW.out])
                    | (go_at_call 109; refine (agreed_any m _ _ _ g _ hi hl6 HR.out hm5 (by omega)).mono ?_; rintro e w' ⟨rfl, rfl⟩; rw [← HU.out])
                    | (go_at_call 110; refine (most_any _ _ _ g x _ hi hl6 HR.out (by omega) hx).mono ?_; rintro e w' ⟨rfl, rfl⟩; rw [← HT.out]))
                go_round
                case rel => exact ⟨g + 1, by omega, by omega, by go_num, HNX.out HT0.out⟩
                case measure => simp only [intOf]; omega
        · obtain rfl : M = g := by omega
          have HMI := hide (scan_miss (f := k - l) HA.out)
          have HM : Hid (k - l + 1 = k + 1 - l) := by unfold Hid; omega
          have HM2 : Hid (k - l = k + 1 - (l + 1)) := by unfold Hid; omega
          go_wp2_with (go_at_call 77; refine (power_any _ _ (by omega) (by omega)).mono ?_; rintro e w' ⟨rfl, rfl⟩; rw [HPW.out])
          go_round
          case rel => exact ⟨l + 1, by omega, by omega, by go_num, show _ = _ by rw [HS.out, ← HM.out, HMI.out, HM2.out]⟩
          case measure => simp only [intOf]; omega
    · obtain rfl : l = k + 1 := by omega
      go_wp2
      go_ret2
      exact ⟨wro_none (by rw [HS.out, Nat.sub_self]; rfl), rfl⟩

set_option maxHeartbeats 4000000 in
set_option maxRecDepth 100000 in
theorem wronged2_any (s : ByteArray) (n0 : (s.toList == [111, 110, 101]) = false) (n1 : (s.toList == [116, 111, 103, 101, 116, 104, 101, 114]) = true) (m : Nat) (a : Option Addr) (cap : Nat) (bs : List Int) (k x : Nat) (w : World) (hi : Ints w a bs) (hl6 : bs.length ≤ 6) (hl1 : 1 ≤ bs.length) (hr : ∀ b ∈ bs, 0 ≤ b ∧ b ≤ 31) (hm5 : m ≤ 5) (hk5 : k ≤ 5) (hx : x < 32) :
    Calls Try.prog 90 #[.string s, .int .i64 m, .slice a bs.length cap, .int .i64 k, .int .i64 x] w fun e w' => WroE (scan (badB 2 bs m k x) (2 ^ bs.length) k 1) e ∧ w = w' := by
  have HR := hide hr
  clear hr
  obtain ⟨M, hM⟩ : ∃ M, M = 2 ^ bs.length := ⟨_, rfl⟩
  have hM64 : M ≤ 64 := by rw [hM]; exact pow_le6 _ hl6
  have hM1 : 1 ≤ M := by rw [hM]; exact Nat.two_pow_pos _
  have HPW : Hid (pw (bs.length : Int) = (M : Int)) := by unfold Hid; rw [pw_nat, hM]
  have HLEN : Hid (∀ g, g < M → (memL bs g).length = pc g) := fun g hg => memL_len hl6 (by rw [← hM]; exact hg)
  rw [← hM]
  obtain ⟨p, hp⟩ : ∃ p, p = badB 2 bs m k x := ⟨_, rfl⟩
  have HP := hide hp
  rw [← hp]
  clear hM hp
  go_enter Try.func90, Try.ntmps90
  go_wp2
  go_loop [13] (fun i => ∃ l : Nat, 1 ≤ l ∧ l ≤ k + 1 ∧ i = .int .i64 l ∧ Hid (scan p M k 1 = scan p M (k + 1 - l) l)) (fun i => k + 1 - (intOf i).toNat)
  case atStart => exact ⟨1, Nat.le_refl _, by omega, rfl, rfl⟩
  case round =>
    obtain ⟨l, hl1', hlk, rfl, HS⟩ := hrel
    by_cases hlt : l ≤ k
    · go_wp2
      go_loop [14] (fun i => ∃ g : Nat, 1 ≤ g ∧ g ≤ M ∧ i = .int .i64 g ∧ Hid (∀ z, z < g → p l z = false)) (fun i => M - (intOf i).toNat)
      case atStart => exact ⟨1, Nat.le_refl _, hM1, rfl, fun z hz => by
        obtain rfl : z = 0 := by omega
        rw [HP.out]
        exact bad_zero hl1 hl1'⟩
      case round =>
        obtain ⟨g, hg1, hg, rfl, HA⟩ := hrel
        by_cases hgM : g < M
        · have HNX := hide (fun (h : p l g = false) z (hz : z < g + 1) => (by
            rcases Nat.lt_or_ge z g with hzy | hzy
            · exact HA.out z hzy
            · obtain rfl : z = g := by omega
              exact h : p l z = false))
          have HG := hide (HLEN.out g hgM)
          have hpg := pc_le g
          have hN1 := hide (fun h => due_no1 (ms := memL bs g) (m := m) (n := bs.length) (k := k) (l := l) h)
          have hN2 := hide (fun h => due_no2 (ms := memL bs g) (m := m) (n := bs.length) (k := k) (l := l) h)
          have hY := hide (fun h1 h2 => due_yes (ms := memL bs g) (m := m) (n := bs.length) (k := k) (l := l) h1 h2)
          rw [HG.out] at hN1 hY
          have HB1 : Hid (dueB (memL bs g) m bs.length k l = false → p l g = false) := fun h => by rw [HP.out]; exact badB_due h
          have HB2 : Hid (dueB (memL bs g) m bs.length k l = true → p l g = wrongB 2 (memL bs g) l x) := fun h => by rw [HP.out]; exact badB_yes h
          obtain ⟨A1, hA1⟩ : ∃ A, A = pc g * k := ⟨_, rfl⟩
          obtain ⟨A2, hA2⟩ : ∃ A, A = l * bs.length := ⟨_, rfl⟩
          have hb1 : A1 ≤ 36 := by rw [hA1]; exact mul30 hpg (by omega)
          have hb2 : A2 ≤ 36 := by rw [hA2]; exact mul30 (by omega) hl6
          have HE1 : Hid ((pc g : Int) * (k : Int) = (A1 : Int)) := by unfold Hid; rw [hA1, Int.natCast_mul]
          have HE2 : Hid ((l : Int) * (bs.length : Int) = (A2 : Int)) := by unfold Hid; rw [hA2, Int.natCast_mul]
          rw [← hA1, ← hA2] at hN1 hY
          obtain ⟨u, hu⟩ : ∃ u, u = andL (memL bs g) (2 ^ m - 1) := ⟨_, rfl⟩
          have HU := hide hu
          have hu64 : u < 64 := by
            have h1 := andL_le (memL bs g) (2 ^ m - 1)
            have h2 : 2 ^ m ≤ 2 ^ 5 := Nat.pow_le_pow_right (by omega) hm5
            omega
          rw [← hu] at hN2 hY
          clear hA1 hA2 hu
          by_cases hc1 : A1 < A2
          · have HF := hide (HB1.out (hN1.out hc1))
            have he1 := HE1.out
            have he2 := HE2.out
            go_wp2_with (first
              | (go_at_call 89; refine (weight_any _ _ (by omega)).mono ?_; rintro e w' ⟨rfl, rfl⟩)
              | (go_at_call 77; refine (power_any _ _ (by omega) (by omega)).mono ?_; rintro e w' ⟨rfl, rfl⟩; rw [HPW.out])
              | (go_at_call 109; refine (agreed_any m _ _ _ g _ hi hl6 HR.out hm5 (by omega)).mono ?_; rintro e w' ⟨rfl, rfl⟩; rw [← HU.out]))
            go_round
            case rel => exact ⟨g + 1, by omega, by omega, by go_num, HNX.out HF.out⟩
            case measure => simp only [intOf]; omega
          · by_cases hc2 : pc u < l
            · have HF := hide (HB1.out (hN2.out hc2))
              have he1 := HE1.out
              have he2 := HE2.out
              go_wp2_with (first
                | (go_at_call 89; refine (weight_any _ _ (by omega)).mono ?_; rintro e w' ⟨rfl, rfl⟩)
                | (go_at_call 77; refine (power_any _ _ (by omega) (by omega)).mono ?_; rintro e w' ⟨rfl, rfl⟩; rw [HPW.out])
                | (go_at_call 109; refine (agreed_any m _ _ _ g _ hi hl6 HR.out hm5 (by omega)).mono ?_; rintro e w' ⟨rfl, rfl⟩; rw [← HU.out]))
              go_round
              case rel => exact ⟨g + 1, by omega, by omega, by go_num, HNX.out HF.out⟩
              case measure => simp only [intOf]; omega
            · have HW := hide (HB2.out (hY.out hc1 hc2))
              obtain ⟨t, ht⟩ : ∃ t, t = orL (memL bs g) 0 := ⟨_, rfl⟩
              have HT := hide ht
              have ht32 : t < 32 := by rw [ht]; exact orL_lt _ (fun b hb => HR.out b (memK_mem bs g _ (Nat.le_refl _) b hb)) 0 (by omega)
              obtain ⟨v, hv⟩ : ∃ v, v = t &&& x := ⟨_, rfl⟩
              have hv64 : v < 64 := by rw [hv]; have := Nat.and_lt_two_pow (n := 5) t (show x < 2 ^ 5 from hx); omega
              have hand := and_big t x (by omega) (by omega)
              have hV : pc (orL (memL bs g) 0 &&& x) = pc v := by rw [← ht, ← hv]
              rw [← hv] at hand
              have HAND := hide hand
              have HV := hide hV
              clear ht hv hand hV
              by_cases hbad : pc v < l
              · have HT1 : Hid (p l g = true) := by
                  unfold Hid
                  rw [HW.out]
                  unfold wrongB
                  rw [if_neg (by decide), if_pos rfl, decide_eq_true (by rw [HV.out]; exact hbad)]
                clear HV
                have HHIT := hide (scan_hit (p := p) (f := k - l) hgM HT1.out HA.out)
                have HM : Hid (k - l + 1 = k + 1 - l) := by unfold Hid; omega
                have he1 := HE1.out
                have he2 := HE2.out
                go_wp2_with (first
                    | (go_at_call 89; refine (weight_any _ _ (by omega)).mono ?_; rintro e w' ⟨rfl, rfl⟩)
                    | (go_at_call 77; refine (power_any _ _ (by omega) (by omega)).mono ?_; rintro e w' ⟨rfl, rfl⟩; rw [HPW.out])
                    | (go_at_call 109; refine (agreed_any m _ _ _ g _ hi hl6 HR.out hm5 (by omega)).mono ?_; rintro e w' ⟨rfl, rfl⟩; rw [← HU.out])
                    | (go_at_call 111; refine (covered_any _ _ _ g _ hi hl6 HR.out (by omega)).mono ?_; rintro e w' ⟨rfl, rfl⟩; rw [← HT.out]; have hand := HAND.out))
                go_ret2
                exact ⟨wro_some (by rw [HS.out, ← HM.out]; exact HHIT.out), rfl⟩
              · have HT0 : Hid (p l g = false) := by
                  unfold Hid
                  rw [HW.out]
                  unfold wrongB
                  rw [if_neg (by decide), if_pos rfl, decide_eq_false (by rw [HV.out]; exact hbad)]
                clear HV
                have he1 := HE1.out
                have he2 := HE2.out
                go_wp2_with (first
                    | (go_at_call 89; refine (weight_any _ _ (by omega)).mono ?_; rintro e w' ⟨rfl, rfl⟩)
                    | (go_at_call 77; refine (power_any _ _ (by omega) (by omega)).mono ?_; rintro e w' ⟨rfl, rfl⟩; rw [HPW.out])
                    | (go_at_call 109; refine (agreed_any m _ _ _ g _ hi hl6 HR.out hm5 (by omega)).mono ?_; rintro e w' ⟨rfl, rfl⟩; rw [← HU.out])
                    | (go_at_call 111; refine (covered_any _ _ _ g _ hi hl6 HR.out (by omega)).mono ?_; rintro e w' ⟨rfl, rfl⟩; rw [← HT.out]; have hand := HAND.out))
                go_round
                case rel => exact ⟨g + 1, by omega, by omega, by go_num, HNX.out HT0.out⟩
                case measure => simp only [intOf]; omega
        · obtain rfl : M = g := by omega
          have HMI := hide (scan_miss (f := k - l) HA.out)
          have HM : Hid (k - l + 1 = k + 1 - l) := by unfold Hid; omega
          have HM2 : Hid (k - l = k + 1 - (l + 1)) := by unfold Hid; omega
          go_wp2_with (go_at_call 77; refine (power_any _ _ (by omega) (by omega)).mono ?_; rintro e w' ⟨rfl, rfl⟩; rw [HPW.out])
          go_round
          case rel => exact ⟨l + 1, by omega, by omega, by go_num, show _ = _ by rw [HS.out, ← HM.out, HMI.out, HM2.out]⟩
          case measure => simp only [intOf]; omega
    · obtain rfl : l = k + 1 := by omega
      go_wp2
      go_ret2
      exact ⟨wro_none (by rw [HS.out, Nat.sub_self]; rfl), rfl⟩

set_option maxHeartbeats 4000000 in
set_option maxRecDepth 100000 in
theorem wronged3_any (s : ByteArray) (n0 : (s.toList == [111, 110, 101]) = false) (n1 : (s.toList == [116, 111, 103, 101, 116, 104, 101, 114]) = false) (n2 : (s.toList == [115, 111, 109, 101, 111, 110, 101]) = true) (m : Nat) (a : Option Addr) (cap : Nat) (bs : List Int) (k x : Nat) (w : World) (hi : Ints w a bs) (hl6 : bs.length ≤ 6) (hl1 : 1 ≤ bs.length) (hr : ∀ b ∈ bs, 0 ≤ b ∧ b ≤ 31) (hm5 : m ≤ 5) (hk5 : k ≤ 5) (hx : x < 32) :
    Calls Try.prog 90 #[.string s, .int .i64 m, .slice a bs.length cap, .int .i64 k, .int .i64 x] w fun e w' => WroE (scan (badB 3 bs m k x) (2 ^ bs.length) k 1) e ∧ w = w' := by
  have HR := hide hr
  clear hr
  obtain ⟨M, hM⟩ : ∃ M, M = 2 ^ bs.length := ⟨_, rfl⟩
  have hM64 : M ≤ 64 := by rw [hM]; exact pow_le6 _ hl6
  have hM1 : 1 ≤ M := by rw [hM]; exact Nat.two_pow_pos _
  have HPW : Hid (pw (bs.length : Int) = (M : Int)) := by unfold Hid; rw [pw_nat, hM]
  have HLEN : Hid (∀ g, g < M → (memL bs g).length = pc g) := fun g hg => memL_len hl6 (by rw [← hM]; exact hg)
  rw [← hM]
  obtain ⟨p, hp⟩ : ∃ p, p = badB 3 bs m k x := ⟨_, rfl⟩
  have HP := hide hp
  rw [← hp]
  clear hM hp
  go_enter Try.func90, Try.ntmps90
  go_wp2
  go_loop [13] (fun i => ∃ l : Nat, 1 ≤ l ∧ l ≤ k + 1 ∧ i = .int .i64 l ∧ Hid (scan p M k 1 = scan p M (k + 1 - l) l)) (fun i => k + 1 - (intOf i).toNat)
  case atStart => exact ⟨1, Nat.le_refl _, by omega, rfl, rfl⟩
  case round =>
    obtain ⟨l, hl1', hlk, rfl, HS⟩ := hrel
    by_cases hlt : l ≤ k
    · go_wp2
      go_loop [14] (fun i => ∃ g : Nat, 1 ≤ g ∧ g ≤ M ∧ i = .int .i64 g ∧ Hid (∀ z, z < g → p l z = false)) (fun i => M - (intOf i).toNat)
      case atStart => exact ⟨1, Nat.le_refl _, hM1, rfl, fun z hz => by
        obtain rfl : z = 0 := by omega
        rw [HP.out]
        exact bad_zero hl1 hl1'⟩
      case round =>
        obtain ⟨g, hg1, hg, rfl, HA⟩ := hrel
        by_cases hgM : g < M
        · have HNX := hide (fun (h : p l g = false) z (hz : z < g + 1) => (by
            rcases Nat.lt_or_ge z g with hzy | hzy
            · exact HA.out z hzy
            · obtain rfl : z = g := by omega
              exact h : p l z = false))
          have HG := hide (HLEN.out g hgM)
          have hpg := pc_le g
          have hN1 := hide (fun h => due_no1 (ms := memL bs g) (m := m) (n := bs.length) (k := k) (l := l) h)
          have hN2 := hide (fun h => due_no2 (ms := memL bs g) (m := m) (n := bs.length) (k := k) (l := l) h)
          have hY := hide (fun h1 h2 => due_yes (ms := memL bs g) (m := m) (n := bs.length) (k := k) (l := l) h1 h2)
          rw [HG.out] at hN1 hY
          have HB1 : Hid (dueB (memL bs g) m bs.length k l = false → p l g = false) := fun h => by rw [HP.out]; exact badB_due h
          have HB2 : Hid (dueB (memL bs g) m bs.length k l = true → p l g = wrongB 3 (memL bs g) l x) := fun h => by rw [HP.out]; exact badB_yes h
          obtain ⟨A1, hA1⟩ : ∃ A, A = pc g * k := ⟨_, rfl⟩
          obtain ⟨A2, hA2⟩ : ∃ A, A = l * bs.length := ⟨_, rfl⟩
          have hb1 : A1 ≤ 36 := by rw [hA1]; exact mul30 hpg (by omega)
          have hb2 : A2 ≤ 36 := by rw [hA2]; exact mul30 (by omega) hl6
          have HE1 : Hid ((pc g : Int) * (k : Int) = (A1 : Int)) := by unfold Hid; rw [hA1, Int.natCast_mul]
          have HE2 : Hid ((l : Int) * (bs.length : Int) = (A2 : Int)) := by unfold Hid; rw [hA2, Int.natCast_mul]
          rw [← hA1, ← hA2] at hN1 hY
          obtain ⟨u, hu⟩ : ∃ u, u = andL (memL bs g) (2 ^ m - 1) := ⟨_, rfl⟩
          have HU := hide hu
          have hu64 : u < 64 := by
            have h1 := andL_le (memL bs g) (2 ^ m - 1)
            have h2 : 2 ^ m ≤ 2 ^ 5 := Nat.pow_le_pow_right (by omega) hm5
            omega
          rw [← hu] at hN2 hY
          clear hA1 hA2 hu
          by_cases hc1 : A1 < A2
          · have HF := hide (HB1.out (hN1.out hc1))
            have he1 := HE1.out
            have he2 := HE2.out
            go_wp2_with (first
              | (go_at_call 89; refine (weight_any _ _ (by omega)).mono ?_; rintro e w' ⟨rfl, rfl⟩)
              | (go_at_call 77; refine (power_any _ _ (by omega) (by omega)).mono ?_; rintro e w' ⟨rfl, rfl⟩; rw [HPW.out])
              | (go_at_call 109; refine (agreed_any m _ _ _ g _ hi hl6 HR.out hm5 (by omega)).mono ?_; rintro e w' ⟨rfl, rfl⟩; rw [← HU.out]))
            go_round
            case rel => exact ⟨g + 1, by omega, by omega, by go_num, HNX.out HF.out⟩
            case measure => simp only [intOf]; omega
          · by_cases hc2 : pc u < l
            · have HF := hide (HB1.out (hN2.out hc2))
              have he1 := HE1.out
              have he2 := HE2.out
              go_wp2_with (first
                | (go_at_call 89; refine (weight_any _ _ (by omega)).mono ?_; rintro e w' ⟨rfl, rfl⟩)
                | (go_at_call 77; refine (power_any _ _ (by omega) (by omega)).mono ?_; rintro e w' ⟨rfl, rfl⟩; rw [HPW.out])
                | (go_at_call 109; refine (agreed_any m _ _ _ g _ hi hl6 HR.out hm5 (by omega)).mono ?_; rintro e w' ⟨rfl, rfl⟩; rw [← HU.out]))
              go_round
              case rel => exact ⟨g + 1, by omega, by omega, by go_num, HNX.out HF.out⟩
              case measure => simp only [intOf]; omega
            · have HW := hide (HB2.out (hY.out hc1 hc2))
              obtain ⟨t, ht⟩ : ∃ t, t = mostL (memL bs g) x 0 := ⟨_, rfl⟩
              have HT := hide ht
              have ht6 : t ≤ 6 := by rw [ht]; exact mostL_le _ _ 0 (by omega)
              by_cases hbad : t < l
              · have HT1 : Hid (p l g = true) := by
                  unfold Hid
                  rw [HW.out]
                  unfold wrongB
                  rw [if_neg (by decide), if_neg (by decide), decide_eq_true (by rw [← ht]; exact hbad)]
                clear ht
                have HHIT := hide (scan_hit (p := p) (f := k - l) hgM HT1.out HA.out)
                have HM : Hid (k - l + 1 = k + 1 - l) := by unfold Hid; omega
                have he1 := HE1.out
                have he2 := HE2.out
                go_wp2_with (first
                    | (go_at_call 89; refine (weight_any _ _ (by omega)).mono ?_; rintro e w' ⟨rfl, rfl⟩)
                    | (go_at_call 77; refine (power_any _ _ (by omega) (by omega)).mono ?_; rintro e w' ⟨rfl, rfl⟩; rw [HPW.out])
                    | (go_at_call 109; refine (agreed_any m _ _ _ g _ hi hl6 HR.out hm5 (by omega)).mono ?_; rintro e w' ⟨rfl, rfl⟩; rw [← HU.out])
                    | (go_at_call 110; refine (most_any _ _ _ g x _ hi hl6 HR.out (by omega) hx).mono ?_; rintro e w' ⟨rfl, rfl⟩; rw [← HT.out]))
                go_ret2
                exact ⟨wro_some (by rw [HS.out, ← HM.out]; exact HHIT.out), rfl⟩
              · have HT0 : Hid (p l g = false) := by
                  unfold Hid
                  rw [HW.out]
                  unfold wrongB
                  rw [if_neg (by decide), if_neg (by decide), decide_eq_false (by rw [← ht]; exact hbad)]
                clear ht
                have he1 := HE1.out
                have he2 := HE2.out
                go_wp2_with (first
                    | (go_at_call 89; refine (weight_any _ _ (by omega)).mono ?_; rintro e w' ⟨rfl, rfl⟩)
                    | (go_at_call 77; refine (power_any _ _ (by omega) (by omega)).mono ?_; rintro e w' ⟨rfl, rfl⟩; rw [HPW.out])
                    | (go_at_call 109; refine (agreed_any m _ _ _ g _ hi hl6 HR.out hm5 (by omega)).mono ?_; rintro e w' ⟨rfl, rfl⟩; rw [← HU.out])
                    | (go_at_call 110; refine (most_any _ _ _ g x _ hi hl6 HR.out (by omega) hx).mono ?_; rintro e w' ⟨rfl, rfl⟩; rw [← HT.out]))
                go_round
                case rel => exact ⟨g + 1, by omega, by omega, by go_num, HNX.out HT0.out⟩
                case measure => simp only [intOf]; omega
        · obtain rfl : M = g := by omega
          have HMI := hide (scan_miss (f := k - l) HA.out)
          have HM : Hid (k - l + 1 = k + 1 - l) := by unfold Hid; omega
          have HM2 : Hid (k - l = k + 1 - (l + 1)) := by unfold Hid; omega
          go_wp2_with (go_at_call 77; refine (power_any _ _ (by omega) (by omega)).mono ?_; rintro e w' ⟨rfl, rfl⟩; rw [HPW.out])
          go_round
          case rel => exact ⟨l + 1, by omega, by omega, by go_num, show _ = _ by rw [HS.out, ← HM.out, HMI.out, HM2.out]⟩
          case measure => simp only [intOf]; omega
    · obtain rfl : l = k + 1 := by omega
      go_wp2
      go_ret2
      exact ⟨wro_none (by rw [HS.out, Nat.sub_self]; rfl), rfl⟩

end Go.Proofs.Ytgkaghappogglaa
