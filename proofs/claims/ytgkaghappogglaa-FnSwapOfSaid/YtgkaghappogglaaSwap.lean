/- SwapOf in the model and in the program. -/
import Derived.Test.YtgkaghappogglaaScan
import Derived.Test.YtgkaghappogglaaGreedM
import Derived.Test.YtgkaghappogglaaApp
import Derived.Deep.RegionHeld3
namespace Go.Proofs.Ytgkaghappogglaa
open Go.RowKit Go.Joins

def harmS : ByteArray := ⟨#[104, 97, 114, 109, 111, 110, 105, 99]⟩
theorem kind_harm : kindN harmS = 1 := by decide +kernel
/-- a committee with one name swapped -/
def swN (w a b : Nat) : Nat := (w ^^^ 2 ^ a) ^^^ 2 ^ b
theorem swN_eq (w a b : Nat) (hw : w < 32) (ha : a < 5) (hb : b < 5) : swN w a b < 32 ∧ w ^^^ 2 ^ a < 32 ∧ (bitN w a = 1 → bitN w b = 0 → 2 ^ a ≤ w ∧ (swN w a b : Nat) = w - 2 ^ a + 2 ^ b) := by
  have h : ∀ w : Fin 32, ∀ a b : Fin 5, swN w.val a.val b.val < 32 ∧ w.val ^^^ 2 ^ a.val < 32 ∧ (bitN w.val a.val = 1 → bitN w.val b.val = 0 → 2 ^ a.val ≤ w.val ∧ swN w.val a.val b.val = w.val - 2 ^ a.val + 2 ^ b.val) := by decide +kernel
  exact h ⟨w, hw⟩ ⟨a, ha⟩ ⟨b, hb⟩
/-- a swap that is better -/
def swapP (bs : List Int) (w a b : Nat) : Bool := decide (bitN w a = 1 ∧ bitN w b = 0 ∧ scoreV 1 bs w < scoreV 1 bs (swN w a b))
theorem swapP_out {bs : List Int} {w a b : Nat} (h : bitN w a ≠ 1) : swapP bs w a b = false := by unfold swapP; exact decide_eq_false (fun hh => h hh.1)
theorem swapP_in {bs : List Int} {w a b : Nat} (h : bitN w b ≠ 0) : swapP bs w a b = false := by unfold swapP; exact decide_eq_false (fun hh => h hh.2.1)
theorem swapP_less {bs : List Int} {w a b : Nat} (h : ¬ scoreV 1 bs w < scoreV 1 bs (swN w a b)) : swapP bs w a b = false := by unfold swapP; exact decide_eq_false (fun hh => h hh.2.2)
theorem swapP_yes {bs : List Int} {w a b : Nat} (h1 : bitN w a = 1) (h2 : bitN w b = 0) (h3 : scoreV 1 bs w < scoreV 1 bs (swN w a b)) : swapP bs w a b = true := by unfold swapP; exact decide_eq_true ⟨h1, h2, h3⟩
/-- what SwapOf answers -/
def swapA (c : Int) (bs : List Int) (x : Int) : Option (Nat × Nat) := if balB c bs = true ∧ (0 ≤ x ∧ x ≤ pw c - 1) then scan (swapP bs x.toNat) c.toNat c.toNat 0 else none
theorem swapA_yes {c : Int} {bs : List Int} {x : Int} (h : balB c bs = true) (h2 : 0 ≤ x ∧ x ≤ pw c - 1) : swapA c bs x = scan (swapP bs x.toNat) c.toNat c.toNat 0 := if_pos ⟨h, h2⟩
theorem swapA_bal {c : Int} {bs : List Int} {x : Int} (h : balB c bs = false) : swapA c bs x = none := if_neg (fun hh => by rw [h] at hh; cases hh.1)
theorem swapA_out {c : Int} {bs : List Int} {x : Int} (h : ¬ (0 ≤ x ∧ x ≤ pw c - 1)) : swapA c bs x = none := if_neg (fun hh => h hh.2)
def SwapE (o : Option (Nat × Nat)) (e : Ending) : Prop := e = .returned (.tuple #[.int .i64 (scL o : Nat), .int .i64 (scR o : Nat), .bool o.isSome])
theorem swap_none {o : Option (Nat × Nat)} (h : o = none) : SwapE o (.returned (.tuple #[.int .i64 0, .int .i64 0, .bool false])) := by subst h; rfl
theorem swap_some {o : Option (Nat × Nat)} {a b : Nat} (h : o = some (a, b)) : SwapE o (.returned (.tuple #[.int .i64 a, .int .i64 b, .bool true])) := by subst h; rfl

set_option maxHeartbeats 4000000 in
set_option maxRecDepth 100000 in
theorem specSwap_any (c : Int) (a : Option Addr) (cap : Nat) (bs : List Int) (x : Int) (w : World) (hi : Ints w a bs) (hn : bs.length ≤ 1048576) :
    Calls Try.prog 56 #[.int .i64 c, .slice a bs.length cap, .int .i64 x] w fun e w' => SwapE (swapA c bs x) e ∧ Below w.heap.size w w' := by
  by_cases hv : balB c bs = true
  · have hb := bal_of hv
    have hl6 : bs.length ≤ 6 := by have := hb.2.1; omega
    have hl1 : 1 ≤ bs.length := by have := hb.2.1; omega
    have HR := hide (bal_range hb)
    have p1 := pw_pos c
    have p5 := pw_le5 c hb.1.2
    have hc0 : 0 ≤ c := by have := hb.1; omega
    have hc5 : c ≤ 5 := hb.1.2
    clear hb
    by_cases hx : 0 ≤ x ∧ x ≤ pw c - 1
    · have HN := hide (swapA_yes hv hx)
      obtain ⟨g, rfl⟩ := Int.eq_ofNat_of_zero_le hx.1
      have hg32 : g < 32 := by omega
      have HX := hide hx
      obtain ⟨m, rfl⟩ := Int.eq_ofNat_of_zero_le hc0
      have hm5 : m ≤ 5 := by omega
      rw [Int.toNat_natCast, Int.toNat_natCast] at HN
      obtain ⟨now, hnow⟩ : ∃ n, n = scoreV 1 bs g := ⟨_, rfl⟩
      have HNOW := hide hnow
      have hnl : now ≤ 147 * bs.length := by rw [hnow]; exact scoreK_le _ _ _ _
      have HSG : Hid (scoreR harmS bs g = (now : Int)) := by unfold Hid; rw [scoreR_yes bs g (by rw [kind_harm]; decide), kind_harm, hnow]
      have his : isScore harmS = true := by unfold isScore; rw [kind_harm]; rfl
      clear hx hnow
      go_enter Try.func56, Try.ntmps56
      go_wp2_with fail
      refine (specBal_any _ _ _ _ _ hi hn).mono ?_
      rintro e wo ⟨rfl, B0⟩
      have hio := hi.below B0
      clear hi
      go_wp2_with (first
        | (go_at_call 77; refine (power_any _ _ (by omega) (by omega)).mono ?_; rintro e w' ⟨rfl, rfl⟩)
        | (go_at_call 70; refine (inRange_yes _ _ _ _ HX.out).mono ?_; rintro e w' ⟨rfl, rfl⟩)
        | (go_at_call 78; refine (specScore_any harmS _ _ _ g _ hio hl6 hl1 HR.out hg32).mono ?_; rintro e w' ⟨rfl, rfl⟩; rw [HSG.out, his]))
      go_loop [11] (fun i => ∃ t : Nat, t ≤ m ∧ i = .int .i64 t ∧ Hid (swapA m bs g = scan (swapP bs g) m (m - t) t)) (fun i => m - (intOf i).toNat)
      case atStart => exact ⟨0, Nat.zero_le _, rfl, HN.out⟩
      case round =>
        obtain ⟨t, ht, rfl, HS⟩ := hrel
        by_cases htm : t < m
        · go_wp2
          go_loop [12] (fun i => ∃ y : Nat, y ≤ m ∧ i = .int .i64 y ∧ Hid (∀ z, z < y → swapP bs g t z = false)) (fun i => m - (intOf i).toNat)
          case atStart => exact ⟨0, Nat.zero_le _, rfl, fun z hz => by omega⟩
          case round =>
            obtain ⟨y, hy, rfl, HA⟩ := hrel
            by_cases hym : y < m
            · have HNX := hide (fun (h : swapP bs g t y = false) z (hz : z < y + 1) => (by
                rcases Nat.lt_or_ge z y with hzy | hzy
                · exact HA.out z hzy
                · obtain rfl : z = y := by omega
                  exact h : swapP bs g t z = false))
              have hbt := bitN_le g t
              have hby := bitN_le g y
              by_cases h1 : bitN g t = 1
              · have H1 := hide h1
                by_cases h2 : bitN g y = 0
                · have H2 := hide h2
                  have hsw := swN_eq g t y hg32 (by omega) (by omega)
                  obtain ⟨hu32, _, hu2⟩ := hsw
                  obtain ⟨hle, hu3⟩ := hu2 h1 h2
                  have HLS := hide (fun h => swapP_less (bs := bs) (w := g) (a := t) (b := y) h)
                  have HYS := hide (fun h => swapP_yes (bs := bs) (w := g) (a := t) (b := y) h1 h2 h)
                  obtain ⟨u, hu⟩ : ∃ u, u = swN g t y := ⟨_, rfl⟩
                  rw [← hu] at hu32 hu3 HLS HYS
                  have pt := pw_nat t
                  have py := pw_nat y
                  have pt1 := pw_pos (t : Int)
                  have py1 := pw_pos (y : Int)
                  have pt5 := pw_le5 (t : Int) (by omega)
                  have py5 := pw_le5 (y : Int) (by omega)
                  have hgp : pw (t : Int) ≤ (g : Int) := by rw [pt]; omega
                  have HE : Hid ((g : Int) - pw (t : Int) + pw (y : Int) = (u : Int)) := by unfold Hid; rw [pt, py, hu3]; omega
                  obtain ⟨sv, hsv⟩ : ∃ sv, sv = scoreV 1 bs u := ⟨_, rfl⟩
                  have hsl : sv ≤ 147 * bs.length := by rw [hsv]; exact scoreK_le _ _ _ _
                  have HSU : Hid (scoreR harmS bs u = (sv : Int)) := by unfold Hid; rw [scoreR_yes bs u (by rw [kind_harm]; decide), kind_harm, hsv]
                  rw [← HNOW.out, ← hsv] at HLS HYS
                  clear h1 h2 hu2 hu hu3 pt py hsv hbt hby hle
                  by_cases hlt : now < sv
                  · have HHIT := hide (scan_hit (p := swapP bs g) (f := m - t - 1) hym (HYS.out hlt) HA.out)
                    have HM : Hid (m - t - 1 + 1 = m - t) := by unfold Hid; omega
                    go_wp2_with (first
                      | (go_at_call 77; refine (power_any _ _ (by omega) (by omega)).mono ?_; rintro e w' ⟨rfl, rfl⟩; have he := HE.out)
                      | (go_at_call 86; (with_reducible refine (bit_any g t _ (by omega) (by omega)).mono ?_); rintro e w' ⟨rfl, rfl⟩; rw [H1.out])
                      | (go_at_call 86; (with_reducible refine (bit_any g y _ (by omega) (by omega)).mono ?_); rintro e w' ⟨rfl, rfl⟩; rw [H2.out])
                      | (go_at_call 78; refine (specScore_any harmS _ _ _ u _ hio hl6 hl1 HR.out hu32).mono ?_; rintro e w' ⟨rfl, rfl⟩; rw [HSU.out]))
                    go_ret3
                    exact ⟨swap_some (by rw [HS.out, ← HM.out]; exact HHIT.out), B0⟩
                  · have HNO := hide (HLS.out hlt)
                    go_wp2_with (first
                      | (go_at_call 77; refine (power_any _ _ (by omega) (by omega)).mono ?_; rintro e w' ⟨rfl, rfl⟩; have he := HE.out)
                      | (go_at_call 86; (with_reducible refine (bit_any g t _ (by omega) (by omega)).mono ?_); rintro e w' ⟨rfl, rfl⟩; rw [H1.out])
                      | (go_at_call 86; (with_reducible refine (bit_any g y _ (by omega) (by omega)).mono ?_); rintro e w' ⟨rfl, rfl⟩; rw [H2.out])
                      | (go_at_call 78; refine (specScore_any harmS _ _ _ u _ hio hl6 hl1 HR.out hu32).mono ?_; rintro e w' ⟨rfl, rfl⟩; rw [HSU.out]))
                    go_round
                    case rel => exact ⟨y + 1, by omega, by go_num, HNX.out HNO.out⟩
                    case measure => simp only [intOf]; omega
                · have HNO := hide (swapP_in (bs := bs) (a := t) h2)
                  have h2' : bitN g y = 1 := by omega
                  have H2 := hide h2'
                  clear h1 h2 h2' hbt hby
                  go_wp2_with (first
                    | (go_at_call 86; (with_reducible refine (bit_any g t _ (by omega) (by omega)).mono ?_); rintro e w' ⟨rfl, rfl⟩; rw [H1.out])
                    | (go_at_call 86; (with_reducible refine (bit_any g y _ (by omega) (by omega)).mono ?_); rintro e w' ⟨rfl, rfl⟩; rw [H2.out]))
                  go_round
                  case rel => exact ⟨y + 1, by omega, by go_num, HNX.out HNO.out⟩
                  case measure => simp only [intOf]; omega
              · have HNO := hide (swapP_out (bs := bs) (b := y) h1)
                have h1' : bitN g t = 0 := by omega
                have H1 := hide h1'
                clear h1 h1' hbt hby
                go_wp2_with (go_at_call 86; refine (bit_any g t _ (by omega) (by omega)).mono ?_; rintro e w' ⟨rfl, rfl⟩; rw [H1.out])
                go_round
                case rel => exact ⟨y + 1, by omega, by go_num, HNX.out HNO.out⟩
                case measure => simp only [intOf]; omega
            · obtain rfl : m = y := by omega
              have HMI := hide (scan_miss (f := m - t - 1) HA.out)
              have HM : Hid (m - t - 1 + 1 = m - t) := by unfold Hid; omega
              have HM2 : Hid (m - t - 1 = m - (t + 1)) := by unfold Hid; omega
              go_wp2
              go_round
              case rel => exact ⟨t + 1, by omega, by go_num, show _ = _ by rw [HS.out, ← HM.out, HMI.out, HM2.out]⟩
              case measure => simp only [intOf]; omega
        · obtain rfl : m = t := by omega
          go_wp2
          go_ret3
          exact ⟨swap_none (by rw [HS.out, Nat.sub_self]; rfl), B0⟩
    · have HN := hide (swapA_out (bs := bs) hx)
      have HX := hide hx
      clear hx
      go_enter Try.func56, Try.ntmps56
      go_wp2_with fail
      refine (specBal_any _ _ _ _ _ hi hn).mono ?_
      rintro e w1 ⟨rfl, hb1⟩
      go_wp2_with (first
        | (go_at_call 77; refine (power_any _ _ (by omega) (by omega)).mono ?_; rintro e w' ⟨rfl, rfl⟩)
        | (go_at_call 70; refine (inRange_no _ _ _ _ HX.out).mono ?_; rintro e w' ⟨rfl, rfl⟩))
      go_ret3
      exact ⟨swap_none HN.out, hb1⟩
  · have hv : balB c bs = false := by simpa using hv
    have HN := hide (swapA_bal (x := x) hv)
    go_enter Try.func56, Try.ntmps56
    go_wp2_with fail
    refine (specBal_any _ _ _ _ _ hi hn).mono ?_
    rintro e w1 ⟨rfl, hb1⟩
    go_wp2
    go_ret3
    exact ⟨swap_none HN.out, hb1⟩

theorem xor_pow (w x u : Nat) (hw : w < 32) (hx : x < 6) (hu : u = w ^^^ 2 ^ x) : bits .xor .i64 (w : Int) (2 ^ x) = (u : Int) := by
  have e : (2 : Int) ^ x = ((2 ^ x : Nat) : Int) := by rw [Int.natCast_pow]; rfl
  have h2 : 2 ^ x < 2 ^ 6 := Nat.pow_lt_pow_right (by omega) hx
  rw [e, xor_big _ _ (by omega) (by omega), hu]
theorem wrapI_pow (k : Nat) (h : k < 6) : IntKind.i64.wrap (2 ^ k) = 2 ^ k := IntWalk.i64_in _ (by
  rcases (show k = 0 ∨ k = 1 ∨ k = 2 ∨ k = 3 ∨ k = 4 ∨ k = 5 from by omega) with rfl | rfl | rfl | rfl | rfl | rfl <;> decide)
set_option maxHeartbeats 4000000 in
set_option maxRecDepth 100000 in
theorem implSwap_any (c : Int) (a : Option Addr) (cap : Nat) (bs : List Int) (x : Int) (w : World) (hi : Ints w a bs) (hn : bs.length ≤ 1048576) :
    Calls Try.prog 55 #[.int .i64 c, .slice a bs.length cap, .int .i64 x] w fun e w' => SwapE (swapA c bs x) e ∧ Below w.heap.size w w' := by
  by_cases hv : balB c bs = true
  · have hb := bal_of hv
    have HC := hide hb.1
    have hl6 : bs.length ≤ 6 := by have := hb.2.1; omega
    have hl1 : 1 ≤ bs.length := by have := hb.2.1; omega
    have HR := hide (bal_range hb)
    have p5 := pw_le5 c hb.1.2
    have hc0 : 0 ≤ c := by have := hb.1; omega
    have hc5 : c ≤ 5 := hb.1.2
    clear hb
    by_cases hx : 0 ≤ x ∧ x ≤ pw c - 1
    · have HN := hide (swapA_yes hv hx)
      obtain ⟨g, rfl⟩ := Int.eq_ofNat_of_zero_le hx.1
      have hg32 : g < 32 := by omega
      have HX := hide hx
      obtain ⟨m, rfl⟩ := Int.eq_ofNat_of_zero_le hc0
      have hm5 : m ≤ 5 := by omega
      rw [Int.toNat_natCast, Int.toNat_natCast] at HN
      obtain ⟨now, hnow⟩ : ∃ n, n = scoreV 1 bs g := ⟨_, rfl⟩
      have HNOW := hide hnow
      have hnl : now ≤ 147 * bs.length := by rw [hnow]; exact scoreK_le _ _ _ _
      clear hx hnow p5
      go_enter Try.func55, Try.ntmps55
      go_wp2_with fail
      refine (implBal_any _ _ _ _ _ hi hn).mono ?_
      rintro e w1 ⟨rfl, hb1⟩
      go_wp2_with (go_at_call 64; refine (areNames_yes _ _ _ HC.out.1 HC.out.2 HX.out).mono ?_; rintro e w' ⟨rfl, rfl⟩)
      refine (scored1_any _ _ _ _ _ (hi.below hb1) hl6 hl1 HR.out hg32).mono ?_
      rintro e wo ⟨rfl, hb2⟩
      rw [← HNOW.out]
      have B0 := bnext hb1 hb2
      have hio := hi.below B0
      clear hi hb1 hb2
      go_wp2
      go_loopw [28] (fun i wr => ∃ t : Nat, t ≤ m ∧ i = .int .i64 t ∧ Hid (swapA m bs g = scan (swapP bs g) m (m - t) t) ∧ Below wo.heap.size wo wr) (fun i _ => m - (intOf i).toNat)
      case atStart => exact ⟨0, Nat.zero_le _, rfl, HN.out, Below.refl _ _⟩
      case round =>
        obtain ⟨t, ht, rfl, HS, BR⟩ := hrel
        by_cases htm : t < m
        · go_wp2
          obtain ⟨wq0, hwq⟩ : ∃ wq : World, wq = wr := ⟨_, rfl⟩
          subst hwq
          go_loopw [32] (fun i wq => ∃ y : Nat, y ≤ m ∧ i = .int .i64 y ∧ Hid (∀ z, z < y → swapP bs g t z = false) ∧ Below wo.heap.size wo wq) (fun i _ => m - (intOf i).toNat)
          case atStart => exact ⟨0, Nat.zero_le _, rfl, fun z hz => by omega, BR⟩
          case round =>
            clear BR
            obtain ⟨y, hy, rfl, HA, BR⟩ := hrel
            by_cases hym : y < m
            · have HNX := hide (fun (h : swapP bs g t y = false) z (hz : z < y + 1) => (by
                rcases Nat.lt_or_ge z y with hzy | hzy
                · exact HA.out z hzy
                · obtain rfl : z = y := by omega
                  exact h : swapP bs g t z = false))
              have hbt := bitN_le g t
              have hby := bitN_le g y
              have sht := shr_bit (g : Int) t (by omega) (by omega)
              have shy := shr_bit (g : Int) y (by omega) (by omega)
              rw [Int.toNat_natCast] at sht shy
              by_cases h1 : bitN g t = 1
              · by_cases h2 : bitN g y = 0
                · have hsw := swN_eq g t y hg32 (by omega) (by omega)
                  obtain ⟨hu32, hv32, _⟩ := hsw
                  have HLS := hide (fun h => swapP_less (bs := bs) (w := g) (a := t) (b := y) h)
                  have HYS := hide (fun h => swapP_yes (bs := bs) (w := g) (a := t) (b := y) h1 h2 h)
                  obtain ⟨v, hv2⟩ : ∃ v, v = g ^^^ 2 ^ t := ⟨_, rfl⟩
                  have hx1 := xor_pow g t v hg32 (by omega) hv2
                  have hunf : swN g t y = v ^^^ 2 ^ y := by unfold swN; rw [← hv2]
                  rw [← hv2] at hv32
                  obtain ⟨u, hu⟩ : ∃ u, u = swN g t y := ⟨_, rfl⟩
                  have hx2 := xor_pow v y u hv32 (by omega) (hu.trans hunf)
                  rw [← hu] at hu32 HLS HYS
                  have WT := hide (wrapI_pow t (by omega))
                  have WY := hide (wrapI_pow y (by omega))
                  have HX1 := hide hx1
                  have HX2 := hide hx2
                  obtain ⟨sv, hsv⟩ : ∃ sv, sv = scoreV 1 bs u := ⟨_, rfl⟩
                  have HSV := hide hsv
                  have hsl : sv ≤ 147 * bs.length := by rw [hsv]; exact scoreK_le _ _ _ _
                  rw [← HNOW.out, ← hsv] at HLS HYS
                  rw [h1] at sht
                  rw [h2] at shy
                  have iol := hio.below BR
                  clear h1 h2 hv2 hunf hu hsv hbt hby hx1 hx2
                  by_cases hlt : now < sv
                  · have HHIT := hide (scan_hit (p := swapP bs g) (f := m - t - 1) hym (HYS.out hlt) HA.out)
                    have HM : Hid (m - t - 1 + 1 = m - t) := by unfold Hid; omega
                    go_wp2
                    go_region_held3 (fun _ => True) (exact trivial) (first | (go_at_call 74; rw [WT.out, HX1.out, WY.out, HX2.out]; refine (scored1_any _ _ _ _ _ (iol.below (bdrew' (Below.refl _ _))) hl6 hl1 HR.out hu32).mono ?_; rintro e w3 ⟨rfl, hb3⟩; rw [← HSV.out]) | fail)
                    all_goals
                      go_wp2
                      go_ret3
                      exact ⟨swap_some (by rw [HS.out, ← HM.out]; exact HHIT.out), bnext B0 (bnext BR (bdrew hb3))⟩
                  · have HNO := hide (HLS.out hlt)
                    go_wp2
                    go_region_held3 (fun _ => True) (exact trivial) (first | (go_at_call 74; rw [WT.out, HX1.out, WY.out, HX2.out]; refine (scored1_any _ _ _ _ _ (iol.below (bdrew' (Below.refl _ _))) hl6 hl1 HR.out hu32).mono ?_; rintro e w3 ⟨rfl, hb3⟩; rw [← HSV.out]) | fail)
                    all_goals
                      go_wp2
                      go_roundw
                      case rel => exact ⟨y + 1, by omega, by go_num, HNX.out HNO.out, bnext BR (bdrew hb3)⟩
                      case measure => simp only [intOf]; omega
                · have HNO := hide (swapP_in (bs := bs) (a := t) h2)
                  have h2' : bitN g y = 1 := by omega
                  rw [h1] at sht
                  rw [h2'] at shy
                  clear h1 h2 h2' hbt hby
                  go_wp2
                  go_roundw
                  case rel => exact ⟨y + 1, by omega, by go_num, HNX.out HNO.out, BR⟩
                  case measure => simp only [intOf]; omega
              · have HNO := hide (swapP_out (bs := bs) (b := y) h1)
                have h1' : bitN g t = 0 := by omega
                rw [h1'] at sht
                clear h1 h1' hbt hby shy
                go_wp2
                go_roundw
                case rel => exact ⟨y + 1, by omega, by go_num, HNX.out HNO.out, BR⟩
                case measure => simp only [intOf]; omega
            · obtain rfl : m = y := by omega
              have HMI := hide (scan_miss (f := m - t - 1) HA.out)
              have HM : Hid (m - t - 1 + 1 = m - t) := by unfold Hid; omega
              have HM2 : Hid (m - t - 1 = m - (t + 1)) := by unfold Hid; omega
              go_wp2
              go_roundw
              case rel => exact ⟨t + 1, by omega, by go_num, show _ = _ by rw [HS.out, ← HM.out, HMI.out, HM2.out], BR⟩
              case measure => simp only [intOf]; omega
        · obtain rfl : m = t := by omega
          go_wp2
          go_ret3
          exact ⟨swap_none (by rw [HS.out, Nat.sub_self]; rfl), bnext B0 BR⟩
    · have HN := hide (swapA_out (bs := bs) hx)
      have HX := hide hx
      clear hx
      go_enter Try.func55, Try.ntmps55
      go_wp2_with fail
      refine (implBal_any _ _ _ _ _ hi hn).mono ?_
      rintro e w1 ⟨rfl, hb1⟩
      go_wp2_with (go_at_call 64; refine (areNames_no _ _ _ HC.out.1 HC.out.2 HX.out).mono ?_; rintro e w' ⟨rfl, rfl⟩)
      go_ret3
      exact ⟨swap_none HN.out, hb1⟩
  · have hv : balB c bs = false := by simpa using hv
    have HN := hide (swapA_bal (x := x) hv)
    go_enter Try.func55, Try.ntmps55
    go_wp2_with fail
    refine (implBal_any _ _ _ _ _ hi hn).mono ?_
    rintro e w1 ⟨rfl, hb1⟩
    go_wp2
    go_ret3
    exact ⟨swap_none HN.out, hb1⟩
theorem specSwap_ret (c : Int) (a : Option Addr) (cap : Nat) (bs : List Int) (x : Int) (w : World) (hi : Ints w a bs) (hn : bs.length ≤ 1048576) :
    Calls Try.prog 56 #[.int .i64 c, .slice a bs.length cap, .int .i64 x] w fun e w' => e = .returned (.tuple #[.int .i64 (scL (swapA c bs x) : Nat), .int .i64 (scR (swapA c bs x) : Nat), .bool (swapA c bs x).isSome]) ∧ Below w.heap.size w w' := specSwap_any c a cap bs x w hi hn
theorem implSwap_ret (c : Int) (a : Option Addr) (cap : Nat) (bs : List Int) (x : Int) (w : World) (hi : Ints w a bs) (hn : bs.length ≤ 1048576) :
    Calls Try.prog 55 #[.int .i64 c, .slice a bs.length cap, .int .i64 x] w fun e w' => e = .returned (.tuple #[.int .i64 (scL (swapA c bs x) : Nat), .int .i64 (scR (swapA c bs x) : Nat), .bool (swapA c bs x).isSome]) ∧ Below w.heap.size w w' := implSwap_any c a cap bs x w hi hn
end Go.Proofs.Ytgkaghappogglaa
