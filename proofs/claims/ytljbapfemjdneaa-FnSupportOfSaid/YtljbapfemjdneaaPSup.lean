/- The law of SupportOf answers true at every code: its walk. -/
import Derived.Test.YtljbapfemjdneaaDrawT
import Derived.Test.YtljbapfemjdneaaLawH
import Derived.Test.YtljbapfemjdneaaSet
namespace Go.Proofs.Ytljbapfemjdneaa
open Go.RowKit Go.Joins

/-- the answers 1 of the first k votes -/
def wsum (vs : List Int) : Nat → Nat
  | 0 => 0
  | k + 1 => wsum vs k + wt (vs.getD k 0).toNat
theorem wsum_le (vs : List Int) : ∀ k, wsum vs k ≤ 4 * k
  | 0 => Nat.le_refl _
  | k + 1 => by
    have := wsum_le vs k
    have := wt_le (vs.getD k 0).toNat
    unfold wsum
    omega
/-- the sum of the first m supports by the first k votes -/
def ssum (vs : List Int) (k : Nat) : Nat → Nat
  | 0 => 0
  | m + 1 => ssum vs k m + supK vs m k
def bsum (x : Nat) : Nat → Nat
  | 0 => 0
  | m + 1 => bsum x m + bitN x m
theorem bsum_fin : ∀ m : Fin 5, ∀ x : Fin 16, x.val < 2 ^ m.val → bsum x.val m.val = wt x.val := by decide +kernel
theorem ssum_zero (vs : List Int) : ∀ m, ssum vs 0 m = 0
  | 0 => rfl
  | m + 1 => by rw [ssum, ssum_zero vs m]; rfl
theorem ssum_succ (vs : List Int) (k : Nat) : ∀ m, ssum vs (k + 1) m = ssum vs k m + bsum (vs.getD k 0).toNat m
  | 0 => rfl
  | m + 1 => by
    rw [ssum, ssum, bsum, ssum_succ vs k m, supK]
    omega
theorem ssum_eq {vs : List Int} {m : Nat} (h4 : m ≤ 4) (hr : ∀ j, j < vs.length → (vs.getD j 0).toNat < 2 ^ m) : ∀ k, k ≤ vs.length → ssum vs k m = wsum vs k
  | 0, _ => by rw [ssum_zero]; rfl
  | k + 1, hk => by
    have h16 : 2 ^ m ≤ 2 ^ 4 := Nat.pow_le_pow_right (by omega) h4
    have hlt := hr k (by omega)
    have hb := bsum_fin ⟨m, by omega⟩ ⟨(vs.getD k 0).toNat, by omega⟩ hlt
    dsimp only at hb
    rw [ssum_succ, wsum, ssum_eq h4 hr k (by omega), hb]
/-- the sum of the first k of a list -/
def psum (zs : List Int) : Nat → Int
  | 0 => 0
  | k + 1 => psum zs k + zs.getD k 0
theorem psum_sup (m : Nat) (vs : List Int) : ∀ k, k ≤ m → psum (supL m vs) k = (ssum vs vs.length k : Nat)
  | 0, _ => rfl
  | k + 1, hk => by
    rw [psum, ssum, psum_sup m vs k (by omega)]
    unfold supL
    rw [supKL_getD m vs vs.length k (by omega)]
    omega
theorem psum_le {zs : List Int} (h : ∀ j, j < zs.length → 0 ≤ zs.getD j 0 ∧ zs.getD j 0 ≤ 1000) : ∀ k, k ≤ zs.length → 0 ≤ psum zs k ∧ psum zs k ≤ 1000 * k
  | 0, _ => by simp [psum]
  | k + 1, hk => by
    have h1 := psum_le h k (by omega)
    have h2 := h k (by omega)
    rw [psum]
    omega
set_option maxHeartbeats 400000 in
theorem total_any (a : Option Addr) (cap : Nat) (zs : List Int) (w : World) (hi : Ints w a zs) (hn : zs.length ≤ 1000) (h : ∀ j, j < zs.length → 0 ≤ zs.getD j 0 ∧ zs.getD j 0 ≤ 1000) :
    Calls Try.prog 48 #[.slice a zs.length cap] w fun e w' => e = .returned (.int .i64 (psum zs zs.length)) ∧ w = w' := by
  have H := hide h
  clear h
  go_enter Try.func48, Try.ntmps48
  go_wp2_with fail
  go_loop [3, 4] (fun s i => ∃ k : Nat, k ≤ zs.length ∧ i = .int .i64 k ∧ s = .int .i64 (psum zs k)) (fun _ i => zs.length - (intOf i).toNat)
  case atStart => exact ⟨0, Nat.zero_le _, rfl, rfl⟩
  case round =>
    obtain ⟨k, hk, rfl, rfl⟩ := hrel
    by_cases hlt : k < zs.length
    · obtain ⟨b, off, rfl, hbl, hc⟩ := hi (by omega)
      have hck := hc k hlt
      have hs := hide (show psum zs (k + 1) = psum zs k + zs.getD k 0 from rfl)
      have h1 := psum_le H.out k hk
      have h2 := H.out k hlt
      obtain ⟨z, hz⟩ : ∃ z, z = zs.getD k 0 := ⟨_, rfl⟩
      rw [← hz] at hck h2
      have HZ := hide hz
      clear hc hz
      go_wp2
      go_round
      case rel => exact ⟨k + 1, by omega, by go_num, by rw [hs.out, ← HZ.out]⟩
      case measure => simp only [intOf]; omega
    · obtain rfl : k = zs.length := by omega
      go_wp2
      go_ret
      exact ⟨rfl, rfl⟩
theorem sup_facts {n : Int} {zs vs : List Int} (h : vvB n zs vs = true) :
    (supA n zs vs).length = n.toNat ∧ (1 ≤ n ∧ n ≤ 4) ∧ (∀ j, j < (supA n zs vs).length → 0 ≤ (supA n zs vs).getD j 0 ∧ (supA n zs vs).getD j 0 ≤ vs.length) ∧ psum (supA n zs vs) (supA n zs vs).length = (wsum vs vs.length : Nat) ∧ (∀ x ∈ vs, 0 ≤ x ∧ x ≤ 15) ∧ vs.length ≤ 5 := by
  obtain ⟨hV, hO⟩ := vv_of h
  have h14 := hV.1
  have hl : (supA n zs vs).length = n.toNat := by rw [supA_yes h, supL_length]
  refine ⟨hl, h14, fun j hj => ?_, ?_, votes_range hV hO, by have := hO.2.2; omega⟩
  · rw [supA_yes h]
    rw [hl] at hj
    unfold supL
    rw [supKL_getD n.toNat vs vs.length j hj]
    have := supK_le vs j vs.length
    omega
  · rw [hl, supA_yes h, psum_sup n.toNat vs n.toNat (Nat.le_refl _), ssum_eq (by omega) (fun j hj => ?_) vs.length (Nat.le_refl _)]
    have hz := hO.1 j hj
    obtain ⟨i, hi, e⟩ := List.getElem_of_mem hz
    have := (hV.2.2 i hi).1
    rw [getD_lt hi, e] at this
    unfold pw at this
    omega

set_option maxHeartbeats 4000000 in
set_option maxRecDepth 100000 in
theorem walk_FnSupportOf (a : Option Addr) (zs : List Nat) (cap : Nat) (w : World) (hi : Byts w a zs) (hl : zs.length ≤ maxLen) (hc : zs.length ≤ cap) :
    Calls Try.prog 10 #[.slice a zs.length cap] w fun e w' => e = .returned (.bool true) ∧ Below w.heap.size w w' := by
  by_cases h : 1048576 < zs.length
  · unfold maxLen at hl
    go_enter Try.func10, Try.ntmps10
    go_wp2
    go_ret
    exact ⟨rfl, Below.refl _ _⟩
  · have hl' : zs.length ≤ 1048576 := by omega
    clear h hl
    go_enter Try.func10, Try.ntmps10
    go_wp2_with fail
    refine (drawSupportOf_any _ _ _ _ hi hl' hc).mono ?_
    rintro e w1 ⟨m, av, ss, cv, al, ls, cl, rfl, ii, hsl, il, hll, hb⟩
    have S0 := SV.new w1 m av ss cv al ls 25 ii il
    have HB := hide hb
    have hn : ss.length ≤ 1048576 := by omega
    have hm : ls.length ≤ 1048576 := by omega
    have hsA := hide (supA_len m ss ls)
    clear hb hi ii il hl' hsl
    obtain ⟨⟨_, c0, c1⟩, _⟩ := S0.pair
    go_wp2_with fail
    refine (implSupportOf_any _ _ _ _ _ _ _ _ S0.2.1 S0.2.2.1 hn hm).mono ?_
    rintro e w2 ⟨v2, rfl, ow2, b2⟩
    have S2 := S0.below b2
    obtain ⟨a2, k2, rfl, i2, _⟩ := ow2.form
    clear c0 c1 S0 ow2 b2
    obtain ⟨⟨_, c0, c1⟩, _⟩ := S2.pair
    go_wp2_with fail
    refine (specSupportOf_any _ _ _ _ _ _ _ _ S2.2.1 S2.2.2.1 hn hm).mono ?_
    rintro e w3 ⟨v3, rfl, ow3, b3⟩
    have S3 := S2.below b3
    have i23 := i2.below b3
    obtain ⟨a3, k3, rfl, i3, _⟩ := ow3.form
    clear c0 c1 S2 ow3 b3 i2
    obtain ⟨⟨_, c0, c1⟩, _⟩ := S3.pair
    go_wp2_with fail
    refine (equalInts_yes _ _ _ _ _ _ i23 i3 hsA.out).mono ?_
    rintro e w4 ⟨rfl, b4⟩
    have S4 := S3.below b4
    have i24 := i23.below b4
    clear c0 c1 S3 b4 i23 i3
    obtain ⟨⟨_, c0, c1⟩, _⟩ := S4.pair
    by_cases hv : vvB m ss ls = true
    · go_wp2_with fail
      refine (implVotes_is _ _ _ _ _ _ _ _ true S4.2.1 S4.2.2.1 hn hm hv).mono ?_
      rintro e w5 ⟨rfl, b5⟩
      have S5 := S4.below b5
      have i25 := i24.below b5
      obtain ⟨hlen, h14, hrg, hps, hvr, hl5⟩ := sup_facts hv
      have HL := hide hlen
      have HR := hide hrg
      have HP := hide hps
      have HV := hide hvr
      have I25 := hide i25
      clear c0 c1 S4 b5 i24 hv hlen hrg hps hvr i25
      obtain ⟨⟨_, c0, c1⟩, _, il, _⟩ := S5.pair
      go_wp2_with fail
      go_loop [6, 7] (fun s i => ∃ k : Nat, k ≤ ls.length ∧ i = .int .i64 k ∧ s = .int .i64 (wsum ls k : Nat)) (fun _ i => ls.length - (intOf i).toNat)
      case atStart => exact ⟨0, Nat.zero_le _, rfl, rfl⟩
      case round =>
        obtain ⟨k, hk, rfl, rfl⟩ := hrel
        have hw := wsum_le ls k
        by_cases hlt : k < ls.length
        · obtain ⟨b, off, rfl, hbl, hcl⟩ := il (by omega)
          have hck := hcl k hlt
          rw [getD_lt hlt] at hck
          have rz := HV.out _ (mem_of_at hlt)
          have hws := hide (show wsum ls (k + 1) = wsum ls k + wt (ls[k]).toNat from by rw [wsum, getD_lt hlt])
          obtain ⟨z, hz⟩ := Int.eq_ofNat_of_zero_le rz.1
          rw [hz] at hck
          have hz16 : z < 16 := by omega
          have hzz := hide (show (ls[k]).toNat = z by rw [hz]; simp)
          have hwt := wt_le z
          clear hcl il rz hz
          go_wp2_with (go_at_call 47; refine (lawWeight_any _ _ hz16).mono ?_; rintro e w' ⟨rfl, rfl⟩)
          go_round
          case rel => exact ⟨k + 1, by omega, by go_num, by rw [hws.out, hzz.out]; go_num⟩
          case measure => simp only [intOf]; omega
        · obtain rfl : k = ls.length := by omega
          have hl0 := hsA.out
          clear c0 c1
          go_wp2_with fail
          go_loop [8] (fun i => ∃ j : Nat, j ≤ (supA m ss ls).length ∧ i = .int .i64 j) (fun i => (supA m ss ls).length - (intOf i).toNat)
          case atStart => exact ⟨0, Nat.zero_le _, rfl⟩
          case round =>
            obtain ⟨j, hj, rfl⟩ := hrel
            by_cases hltj : j < (supA m ss ls).length
            · obtain ⟨b, off, rfl, hbl, hcl⟩ := I25.out (by omega)
              have hck := hcl j hltj
              have hb := HR.out j hltj
              obtain ⟨z, hz⟩ : ∃ z, z = (supA m ss ls).getD j 0 := ⟨_, rfl⟩
              rw [← hz] at hck hb
              clear hcl hz
              go_wp2
              go_round
              case rel => exact ⟨j + 1, by omega, by go_num⟩
              case measure => simp only [intOf]; omega
            · obtain rfl : j = (supA m ss ls).length := by omega
              obtain ⟨⟨_, c0, c1⟩, _⟩ := S5.pair
              have hL4 : (supA m ss ls).length ≤ 1000 := by have := HL.out; omega
              have hT : (psum (supA m ss ls) (supA m ss ls).length == (wsum ls ls.length : Nat)) = true := by rw [HP.out]; simp
              have hI : (((supA m ss ls).length : Int) == m) = true := by
                have := HL.out
                rw [beq_iff_eq]
                omega
              have HT := hide (fun j (hj : j < (supA m ss ls).length) => show 0 ≤ (supA m ss ls).getD j 0 ∧ (supA m ss ls).getD j 0 ≤ 1000 by have := HR.out j hj; omega)
              go_wp2_with (go_at_call 48; refine (total_any _ _ _ _ I25.out hL4 HT.out).mono ?_; rintro e w' ⟨rfl, rfl⟩)
              go_ret
              exact ⟨rfl, bnext HB.out S5.2.2.2⟩
    · have hv : vvB m ss ls = false := by simpa using hv
      go_wp2_with fail
      refine (implVotes_is _ _ _ _ _ _ _ _ false S4.2.1 S4.2.2.1 hn hm hv).mono ?_
      rintro e w5 ⟨rfl, b5⟩
      have S5 := S4.below b5
      have i25 := i24.below b5
      clear c0 c1 S4 b5 i24 hv
      obtain ⟨⟨_, c0, c1⟩, _⟩ := S5.pair
      go_wp2_with fail
      refine (specSupportOf_any _ _ _ _ _ _ _ _ S5.2.1 S5.2.2.1 hn hm).mono ?_
      rintro e w6 ⟨v6, rfl, ow6, b6⟩
      have S6 := S5.below b6
      have i26 := i25.below b6
      obtain ⟨a6, k6, rfl, i6, _⟩ := ow6.form
      go_wp2_with fail
      refine (equalInts_yes _ _ _ _ _ _ i26 i6 hsA.out).mono ?_
      rintro e w7 ⟨rfl, b7⟩
      have S7 := S6.below b7
      go_wp2
      go_ret
      exact ⟨rfl, bnext HB.out S7.2.2.2⟩
end Go.Proofs.Ytljbapfemjdneaa
