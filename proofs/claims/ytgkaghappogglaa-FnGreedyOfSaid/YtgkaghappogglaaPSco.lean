/- The promise of ScoreOf: scores rise with names. -/
import Derived.Test.YtgkaghappogglaaDrawB4
import Derived.Test.YtgkaghappogglaaEjr
import Derived.Test.YtgkaghappogglaaGreedM
namespace Go.Proofs.Ytgkaghappogglaa
open Go.RowKit Go.Joins

theorem sm_mul (u : Nat) (f : Int → Nat) (bs : List Int) : sm (fun b => u * f b) bs = u * sm f bs := by
  induction bs with
  | nil => rfl
  | cons b bs ih => simp only [sm, ih, Nat.mul_add]
theorem more_fin : ∀ b w : Fin 32, ∀ x : Fin 5, pc (b.val &&& w.val) ≤ pc (b.val &&& (w.val ||| 2 ^ x.val)) ∧ pc (b.val &&& w.val) ≤ 5 := by decide +kernel
theorem worth_mono : ∀ q : Fin 4, ∀ a b : Fin 6, a ≤ b → worth q.val a.val ≤ worth q.val b.val := by decide +kernel
theorem pc5 (b w : Fin 32) : pc (b.val &&& w.val) ≤ 5 := (more_fin b w 0).2
theorem minK_at (bs : List Int) (w : Nat) : ∀ k j, j < k → minK bs w k ≤ pc ((bs.getD j 0).toNat &&& w)
  | 0, j, h => by omega
  | k + 1, j, h => by
    rcases Nat.lt_or_ge j k with h1 | h1
    · have := minK_at bs w k j h1; unfold minK; omega
    · obtain rfl : j = k := by omega
      unfold minK; omega
theorem minK_ge (bs : List Int) (w t : Nat) (ht : t ≤ 5) : ∀ k, k ≤ bs.length → (∀ b ∈ bs, t ≤ pc (b.toNat &&& w)) → t ≤ minK bs w k
  | 0, _, _ => ht
  | k + 1, hk, h => by
    have h1 := minK_ge bs w t ht k (by omega) h
    have h2 := h (bs.getD k 0) (by rw [getD_lt (by omega)]; exact mem_of_at _)
    unfold minK; omega
theorem score3 {bs : List Int} (w : Nat) (h1 : 1 ≤ bs.length) : scoreV 3 bs w = minK bs w bs.length := by
  obtain ⟨n, hn⟩ : ∃ n, bs.length = n + 1 := ⟨bs.length - 1, by omega⟩
  unfold scoreV
  rw [hn, scoreK_min]
/-- one more name makes no score less -/
theorem score_rise {q : Nat} (hq : q < 4) {bs : List Int} {w x : Nat} (h1 : 1 ≤ bs.length) (hr : ∀ b ∈ bs, 0 ≤ b ∧ b ≤ 31) (hw : w < 32) (hx : x < 5) : scoreV q bs w ≤ scoreV q bs (w ||| 2 ^ x) := by
  by_cases h3 : q = 3
  · subst h3
    rw [score3 w h1, score3 _ h1]
    refine minK_ge bs _ _ (minK_le bs w _) _ (Nat.le_refl _) fun b hb => ?_
    obtain ⟨j, hj, e⟩ := List.getElem_of_mem hb
    have h := minK_at bs w bs.length j hj
    rw [getD_lt hj, e] at h
    exact Nat.le_trans h (more_fin ⟨b.toNat, toNat_lt (hr b hb)⟩ ⟨w, hw⟩ ⟨x, hx⟩).1
  · rw [scoreV_sm h3, scoreV_sm h3]
    refine sm_le fun b hb => ?_
    have h := more_fin ⟨b.toNat, toNat_lt (hr b hb)⟩ ⟨w, hw⟩ ⟨x, hx⟩
    have h5 := pc5 ⟨b.toNat, toNat_lt (hr b hb)⟩ ⟨w ||| 2 ^ x, Nat.or_lt_two_pow (n := 5) hw (Nat.pow_lt_pow_right (by omega) hx)⟩
    exact worth_mono ⟨q, hq⟩ ⟨pc (b.toNat &&& w), Nat.lt_succ_of_le h.2⟩ ⟨pc (b.toNat &&& (w ||| 2 ^ x)), Nat.lt_succ_of_le h5⟩ h.1
theorem worth_harm : ∀ a : Fin 6, 60 * worth 2 a.val ≤ worth 1 a.val ∧ worth 1 a.val ≤ 60 * worth 0 a.val := by decide +kernel
theorem score_between {bs : List Int} {w : Nat} (h1 : 1 ≤ bs.length) (hr : ∀ b ∈ bs, 0 ≤ b ∧ b ≤ 31) (hw : w < 32) : 60 * scoreV 2 bs w ≤ scoreV 1 bs w ∧ scoreV 1 bs w ≤ 60 * scoreV 0 bs w ∧ scoreV 3 bs w * bs.length ≤ scoreV 0 bs w := by
  rw [scoreV_sm (q := 2) (by omega), scoreV_sm (q := 1) (by omega), scoreV_sm (q := 0) (by omega), score3 w h1, ← sm_mul, ← sm_mul]
  refine ⟨sm_le fun b hb => ?_, sm_le fun b hb => ?_, ?_⟩
  · have h5 := pc5 ⟨b.toNat, toNat_lt (hr b hb)⟩ ⟨w, hw⟩
    exact (worth_harm ⟨pc (b.toNat &&& w), Nat.lt_succ_of_le h5⟩).1
  · have h5 := pc5 ⟨b.toNat, toNat_lt (hr b hb)⟩ ⟨w, hw⟩
    exact (worth_harm ⟨pc (b.toNat &&& w), Nat.lt_succ_of_le h5⟩).2
  · have := sm_least (f := wB 0 w) (U := minK bs w bs.length) (l := 1) (bs := bs) fun b hb => by
      obtain ⟨j, hj, e⟩ := List.getElem_of_mem hb
      have h := minK_at bs w bs.length j hj
      rw [getD_lt hj, e] at h
      rw [Nat.one_mul]
      exact h
    omega
def apprS : ByteArray := ⟨#[97, 112, 112, 114, 111, 118, 97, 108]⟩
def coverS : ByteArray := ⟨#[99, 111, 118, 101, 114]⟩
def leastS : ByteArray := ⟨#[108, 101, 97, 115, 116]⟩
theorem kind_appr : kindN apprS = 0 := by decide +kernel
theorem kind_hrm : kindN ⟨#[104, 97, 114, 109, 111, 110, 105, 99]⟩ = 1 := by decide +kernel
theorem kind_cover : kindN coverS = 2 := by decide +kernel
theorem kind_least : kindN leastS = 3 := by decide +kernel
/-- what the score of a name answers for a committee -/
theorem sc_lit {s : ByteArray} {c : Int} {bs : List Int} {x : Int} {q : Nat} (hk : kindN s = q) (hq : q < 4) (hb : balB c bs = true) (hx : 0 ≤ x ∧ x ≤ pw c - 1) : scB s c bs x = true ∧ scV s c bs x = (scoreV q bs x.toNat : Int) := by
  refine ⟨?_, ?_⟩
  · rw [scB_in hb hx]; unfold isScore; rw [hk]; exact decide_eq_true hq
  · rw [scV_in hb hx, scoreR_yes _ _ (by omega), hk]
theorem scB_parts {s : ByteArray} {c : Int} {bs : List Int} {x : Int} (h : scB s c bs x = true) : balB c bs = true ∧ (0 ≤ x ∧ x ≤ pw c - 1) ∧ kindN s < 4 := by
  unfold scB isScore at h
  simp only [Bool.and_eq_true, decide_eq_true_eq] at h
  exact ⟨h.1, h.2.1, h.2.2⟩
theorem score_882 (q : Nat) {bs : List Int} (h6 : bs.length ≤ 6) (w : Nat) : scoreV q bs w ≤ 882 := by
  have := scoreK_le q bs w bs.length
  unfold scoreV; omega
theorem or_in {m w x : Nat} (hw : w < 2 ^ m) (hx : x < m) : w ||| 2 ^ x < 2 ^ m := Nat.or_lt_two_pow hw (Nat.pow_lt_pow_right (by omega) hx)
set_option maxHeartbeats 2000000 in
set_option maxRecDepth 100000 in
theorem walk_FnScoreOf (a : Option Addr) (zs : List Nat) (cap : Nat) (w : World) (hi : Byts w a zs) (hl : zs.length ≤ maxLen) (hc : zs.length ≤ cap) :
    Calls Try.prog 6 #[.slice a zs.length cap] w fun e w' => e = .returned (.bool true) ∧ Below w.heap.size w w' := by
  by_cases h : 1048576 < zs.length
  · unfold maxLen at hl
    go_enter Try.func6, Try.ntmps6
    go_wp2
    go_ret
    exact ⟨rfl, Below.refl _ _⟩
  · have hl' : zs.length ≤ 1048576 := by omega
    clear h hl
    go_enter Try.func6, Try.ntmps6
    go_wp2_with fail
    refine (drawSc_any _ _ _ _ hi hl' hc).mono ?_
    rintro e w1 ⟨s, c, ab, bs, cb, x, rfl, hc6, ib, hb6, hx, hb1⟩
    have hn : bs.length ≤ 1048576 := by omega
    clear hi
    go_wp2_with fail
    refine (implScoreOf_any _ _ _ _ _ _ _ ib hn).mono ?_
    rintro e w2 ⟨rfl, hb2⟩
    have ib2 := ib.below hb2
    have B2 := bnext hb1 hb2
    clear ib hb1 hb2
    go_wp2_with fail
    refine (specScoreOf_any _ _ _ _ _ _ _ ib2 hn).mono ?_
    rintro e w3 ⟨rfl, hb3⟩
    have ib3 := ib2.below hb3
    have B3 := bnext B2 hb3
    clear ib2 B2 hb3
    by_cases hv : scB s c bs x = true
    · obtain ⟨hbal, hx1, hk⟩ := scB_parts hv
      have hok := bal_of hbal
      have hr := bal_range hok
      have hn1 : 1 ≤ bs.length := by have := hok.2.1.1; omega
      obtain ⟨m, rfl⟩ := Int.eq_ofNat_of_zero_le (show 0 ≤ c from by omega)
      obtain ⟨y, rfl⟩ := Int.eq_ofNat_of_zero_le hx1.1
      have hm5 : m ≤ 5 := by have := hok.1; omega
      have hpw : pw (m : Int) = ((2 ^ m : Nat) : Int) := pw_nat m
      have h32 : 2 ^ m ≤ 32 := pow_le5 (m : Int) (by omega)
      have hym : y < 2 ^ m := by rw [hpw] at hx1; omega
      have hy32 : y < 32 := by omega
      have hV : scV s (m : Int) bs (y : Int) = (scoreV (kindN s) bs y : Int) := by rw [scV_in hbal hx1, scoreR_yes _ _ hk, Int.toNat_natCast]
      have HRISE : Hid (∀ j, j < m → ∃ u V' : Nat, u = y ||| 2 ^ j ∧ u < 32 ∧ scB s (m : Int) bs (u : Int) = true ∧ scV s (m : Int) bs (u : Int) = (V' : Int) ∧ scoreV (kindN s) bs y ≤ V' ∧ V' ≤ 882) := fun j hj => by
        have hu := or_in hym hj
        refine ⟨y ||| 2 ^ j, scoreV (kindN s) bs (y ||| 2 ^ j), rfl, by omega, ?_, ?_, score_rise hk hn1 hr hy32 (by omega), score_882 _ hb6 _⟩
        · have hx2 : (0 : Int) ≤ ((y ||| 2 ^ j : Nat) : Int) ∧ ((y ||| 2 ^ j : Nat) : Int) ≤ pw (m : Int) - 1 := by rw [hpw]; omega
          rw [scB_in hbal hx2]; unfold isScore; exact decide_eq_true hk
        · have hx2 : (0 : Int) ≤ ((y ||| 2 ^ j : Nat) : Int) ∧ ((y ||| 2 ^ j : Nat) : Int) ≤ pw (m : Int) - 1 := by rw [hpw]; omega
          rw [scV_in hbal hx2, scoreR_yes _ _ hk, Int.toNat_natCast]
      obtain ⟨e1, e2, e3⟩ := score_between hn1 hr hy32
      obtain ⟨ba, va⟩ := sc_lit (s := ⟨#[97, 112, 112, 114, 111, 118, 97, 108]⟩) kind_appr (by omega) hbal hx1
      obtain ⟨bh, vh⟩ := sc_lit (s := ⟨#[104, 97, 114, 109, 111, 110, 105, 99]⟩) kind_hrm (by omega) hbal hx1
      obtain ⟨bv, vv⟩ := sc_lit (s := ⟨#[99, 111, 118, 101, 114]⟩) kind_cover (by omega) hbal hx1
      obtain ⟨bl, vl⟩ := sc_lit (s := ⟨#[108, 101, 97, 115, 116]⟩) kind_least (by omega) hbal hx1
      rw [Int.toNat_natCast] at va vh vv vl
      have u0 := score_882 0 hb6 y
      have u1 := score_882 1 hb6 y
      have u2 := score_882 2 hb6 y
      have u3 := score_882 3 hb6 y
      have uV := score_882 (kindN s) hb6 y
      obtain ⟨S0, hS0⟩ : ∃ S, S = scoreV 0 bs y := ⟨_, rfl⟩
      obtain ⟨S1, hS1⟩ : ∃ S, S = scoreV 1 bs y := ⟨_, rfl⟩
      obtain ⟨S2, hS2⟩ : ∃ S, S = scoreV 2 bs y := ⟨_, rfl⟩
      obtain ⟨S3, hS3⟩ : ∃ S, S = scoreV 3 bs y := ⟨_, rfl⟩
      obtain ⟨V, hVV⟩ : ∃ S, S = scoreV (kindN s) bs y := ⟨_, rfl⟩
      obtain ⟨P, hP⟩ : ∃ P, P = S3 * bs.length := ⟨_, rfl⟩
      rw [← hS0] at va u0 e2 e3
      rw [← hS1] at vh u1 e1 e2
      rw [← hS2] at vv u2 e1
      rw [← hS3] at vl u3 e3
      rw [← hVV] at hV uV HRISE
      rw [← hP] at e3
      have hPe : (S3 : Int) * (bs.length : Int) = (P : Int) := by rw [hP, Int.natCast_mul]
      rw [hV, hv]
      have BA := hide ba
      have BH := hide bh
      have BV := hide bv
      have BL := hide bl
      have VA := hide va
      have VH := hide vh
      have VV := hide vv
      have VL := hide vl
      clear ba bh bv bl va vh vv vl hS0 hS1 hS2 hS3 hVV hP hV hv hbal hok hr hx1 hk hpw hx
      go_wp2_with fail
      go_loopw [11] (fun i wr => ∃ j : Nat, j ≤ m ∧ i = .int .i64 j ∧ Below w.heap.size w wr ∧ Ints wr ab bs) (fun i _ => m - (intOf i).toNat)
      case atStart => exact ⟨0, Nat.zero_le _, rfl, B3, ib3⟩
      case round =>
        obtain ⟨j, hj, rfl, B, ibr⟩ := hrel
        by_cases hlt : j < m
        · obtain ⟨u, V', hu, hu32, hB', hV', hge, hV8⟩ := HRISE.out j hlt
          have hor := or_pw y j u hy32 (by omega) hu
          have HB' := hide hB'
          have HV' := hide hV'
          clear hu hB' hV' hPe
          go_wp2_with (first
            | (go_at_call 23; refine (lawPower_any _ _ (by omega) (by omega)).mono ?_; rintro e w' ⟨rfl, rfl⟩)
            | (go_at_call 29; refine (implScoreOf_any _ _ _ _ _ _ _ ibr hn).mono ?_; rintro e w5 ⟨rfl, hb5⟩; rw [HB'.out, HV'.out]))
          go_roundw
          case rel => exact ⟨j + 1, by omega, by go_num, bnext B hb5, ibr.below hb5⟩
          case measure => simp only [intOf]; omega
        · obtain rfl : j = m := by omega
          go_wp2_with fail
          refine (implScoreOf_any _ _ _ _ _ _ _ ibr hn).mono ?_
          rintro e w5 ⟨rfl, hb5⟩
          rw [BA.out, VA.out]
          have ib5 := ibr.below hb5
          have B5 := bnext B hb5
          clear ibr B hb5
          go_wp2_with fail
          refine (implScoreOf_any _ _ _ _ _ _ _ ib5 hn).mono ?_
          rintro e w6 ⟨rfl, hb6'⟩
          rw [BH.out, VH.out]
          have ib6 := ib5.below hb6'
          have B6 := bnext B5 hb6'
          clear ib5 B5 hb6'
          go_wp2_with fail
          refine (implScoreOf_any _ _ _ _ _ _ _ ib6 hn).mono ?_
          rintro e w7 ⟨rfl, hb7⟩
          rw [BV.out, VV.out]
          have ib7 := ib6.below hb7
          have B7 := bnext B6 hb7
          clear ib6 B6 hb7
          go_wp2_with fail
          refine (implScoreOf_any _ _ _ _ _ _ _ ib7 hn).mono ?_
          rintro e w8 ⟨rfl, hb8⟩
          rw [BL.out, VL.out]
          have B8 := bnext B7 hb8
          clear B7 ib7 hb8
          go_wp2
          go_ret
          exact ⟨rfl, B8⟩
    · have hv : scB s c bs x = false := by simpa using hv
      rw [scV_no hv, hv]
      clear hv
      go_wp2
      go_ret
      exact ⟨rfl, B3⟩
end Go.Proofs.Ytgkaghappogglaa
