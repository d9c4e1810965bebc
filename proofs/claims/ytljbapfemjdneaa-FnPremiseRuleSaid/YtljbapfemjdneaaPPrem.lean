/- The law of PremiseRule answers true at every code: its draw and its walk. -/
import Derived.Test.YtljbapfemjdneaaDrawT
import Derived.Test.YtljbapfemjdneaaDrawP
import Derived.Test.YtljbapfemjdneaaPrem
namespace Go.Proofs.Ytljbapfemjdneaa
open Go.RowKit Go.Joins

/-- What a draw of a space, votes and a number leaves. -/
def DrawSVIPost (w : World) (e : Ending) (w' : World) : Prop :=
  ∃ (m : Int) (a : Option Addr) (zs : List Int) (cap : Nat) (l : Option Addr) (ls : List Int) (capl : Nat) (x : Int), e = .returned (.tuple #[.agg #[.int .i64 m, .slice a zs.length cap], .slice l ls.length capl, .int .i64 x]) ∧ Ints w' a zs ∧ zs.length ≤ 65 ∧ Ints w' l ls ∧ ls.length ≤ 10 ∧ Below w.heap.size w w'
set_option maxHeartbeats 4000000 in
set_option maxRecDepth 100000 in
theorem drawPremiseRule_any (a : Option Addr) (cap : Nat) (zs : List Nat) (w : World) (hi : Byts w a zs) (hl : zs.length ≤ 1048576) (hc : zs.length ≤ cap) :
    Calls Try.prog 60 #[.slice a zs.length cap] w (DrawSVIPost w) := by
  have h0 := heap_alloc_new w (.cells #[.int .i64 0, .slice none 0 0] 25)
  have b0 := bel1 w (.cells #[.int .i64 0, .slice none 0 0] 25)
  have hi0 := hi.below b0
  have H0 := hide h0
  have HB0 := hide b0
  clear hi h0 b0
  go_enter Try.func60, Try.ntmps60
  go_wp2_with fail
  refine (newReader_any _ _ _ _ hi0 hl hc).mono ?_
  rintro e w1 ⟨R, rfl, hR, rd, B⟩
  have s1 := hide ((B.block w.heap.size (by simp)).trans H0.out)
  have B1 := hide (bnext HB0.out B)
  have hR' : w.heap.size + 1 ≤ R := by simpa using hR
  have HR := hide hR'
  have hlt := hide rd.lt
  clear hR hR' B hi0
  go_wp2_with fail
  refine (someVotes_any R 0 _ rd (by omega)).mono ?_
  rintro e w2 ⟨m, v, ss, u, ls, rfl, own, hsl, owu, hll, g, rd2⟩
  obtain ⟨av, cv, rfl, D2⟩ := DS.new (m := m) HR.out rd s1.out B1.out own g rd2
  obtain ⟨au, cu, rfl, iu, hgu⟩ := owu.form
  have I2 := iu.below (bel1 w2 (.cells #[.int .i64 m, .slice av ss.length cv] 25))
  have HG := hide (fun b o s (e : au = some ⟨b, o, s⟩) => show R < b by have := (hgu b o s e).1; have := hlt.out; omega)
  have HSL := hide hsl
  clear s1 B1 rd rd2 g own owu hsl H0 HB0 iu hgu
  go_wp2_with fail
  generalize w2.alloc (.cells #[.int .i64 m, .slice av ss.length cv] 25) = W at D2 I2 ⊢
  have D3 := hide D2.drew
  have I3 := hide (I2.below (bdrew' (Below.refl W.heap.size W)))
  have c0 := cell_of_block D3.out.2.1 0
  have c1 := cell_of_block D3.out.2.1 1
  have f0 := unfrozen_of_block D3.out.1 0
  have f1 := unfrozen_of_block D3.out.1 1
  clear D2 I2
  go_region_with ((go_at_call 66; refine (anyPoint_any R _ m _ _ D3.out.rd (by omega)).mono ?_; rintro e w5 ⟨x, rfl, _, g5, rd5⟩; have E5 := hide (D3.out.pick g5 rd5); have I5 := hide (I3.out.other g5 (fun b o s e e' => by have h1 := HG.out b o s e; have h2 : R = b := by { simpa using e' }; omega)); have e0 := cell_of_block E5.out.2.1 0; have e1 := cell_of_block E5.out.2.1 1; have q0 := cell_of_block E5.out.1 0; have q1 := cell_of_block E5.out.1 1; have k0 := unfrozen_of_block E5.out.1 0; have k1 := unfrozen_of_block E5.out.1 1; clear g5 rd5))
  all_goals
    have hw := hide E5.out.2.2.2.2.2.2.1
    go_wp2_with fail
    refine bodyPost_ret (ret_cross3 rfl _ _ _ _ _ rfl E5.out.set2.1) rfl ?_
    refine ⟨m, av, ss, cv, au, ls, cu, x, rfl, E5.out.set2.ints, HSL.out, (I5.out.other (gset _ _ 0 _) ?_).other (gset _ _ 1 _) ?_, hll, E5.out.set2.bel⟩
    all_goals
      intro b o s e e'
      have h1 := HG.out b o s e
      have h2 : w.heap.size = b := by simpa using e'
      have h3 := hw.out
      omega

theorem same_fin : ∀ z : Fin 16, ∀ x : Fin 16, ∀ p : Fin 16, ((z.val ^^^ x.val) &&& p.val = 0 ↔ z.val &&& p.val = x.val &&& p.val) := by decide +kernel
theorem same_test {z x p : Int} (hz : 0 ≤ z ∧ z ≤ 15) (hx : 0 ≤ x ∧ x ≤ 15) (hp : 0 ≤ p ∧ p ≤ 15) : (bits .and .i64 (bits .xor .i64 z x) p == 0) = (bits .and .i64 z p == bits .and .i64 x p) := by
  obtain ⟨a, rfl⟩ := Int.eq_ofNat_of_zero_le hz.1
  obtain ⟨b, rfl⟩ := Int.eq_ofNat_of_zero_le hx.1
  obtain ⟨c, rfl⟩ := Int.eq_ofNat_of_zero_le hp.1
  have h := same_fin ⟨a, by omega⟩ ⟨b, by omega⟩ ⟨c, by omega⟩
  dsimp only at h
  rw [xor_small a b (by omega) (by omega), and_small _ c (Nat.xor_lt_two_pow (n := 4) (by omega) (by omega)) (by omega), and_small a c (by omega) (by omega), and_small b c (by omega) (by omega)]
  rw [Bool.eq_iff_iff, beq_iff_eq, beq_iff_eq]
  omega
theorem last_one {l : List Int} (h : l.length = 1) : l = [lastOf l] := by
  match l, h with
  | [a], _ => rfl
/-- What the law of PremiseRule needs where there is an answer. -/
theorem prem_facts {n : Int} {zs vs : List Int} {p : Int} (h : premB n zs vs p = true) :
    vvB n zs vs = true ∧ (0 ≤ p ∧ p ≤ 15) ∧ premX n zs vs p ∈ zs ∧ (0 ≤ premX n zs vs p ∧ premX n zs vs p ≤ 15) ∧ (∀ z ∈ zs, 0 ≤ z ∧ z ≤ 15) ∧ (zs.filter (premP n vs p)).length = 1 ∧ inB n zs (premX n zs vs p) = true ∧
      (∀ z ∈ zs, (bits .and .i64 (bits .xor .i64 z (premX n zs vs p)) p == 0) = premP n vs p z) ∧ (bits .and .i64 (bits .xor .i64 (premX n zs vs p) (majV n zs vs)) p == 0) = true := by
  have hl : (premL n zs vs p).length = 1 := by simpa [premB] using h
  by_cases hok : PremOk n zs vs p
  · obtain ⟨hV, hO⟩ := vv_of hok.1
    have h14 := hV.1
    have p2 := pw_le n h14.2
    have hp : 0 ≤ p ∧ p ≤ 15 := ⟨hok.2.1, by have := hok.2.2; omega⟩
    have hr := valid_range hV
    have hX : premX n zs vs p = lastOf (premL n zs vs p) := if_pos hl
    have hm : premX n zs vs p ∈ premL n zs vs p := by
      rw [hX, last_one hl]
      simp [lastOf]
    rw [premL_yes hok, List.mem_filter] at hm
    obtain ⟨hm1, hm2⟩ := hm
    have hx := hr _ hm1
    have h16 := want_16 vs n.toNat (by omega)
    have ht : ∀ z, 0 ≤ z ∧ z ≤ 15 → (bits .and .i64 z p == bits .and .i64 (wantB vs n.toNat : Nat) p) = premP n vs p z := fun z hz => by
      have := prem_test (m := n.toNat) (vs := vs) (p := p) (x := z) (by omega) hp hz
      rw [this]
      unfold premP
      rw [Int.toNat_natCast]
    have hxe : bits .and .i64 (premX n zs vs p) p = bits .and .i64 (wantB vs n.toNat : Nat) p := by
      have := ht _ hx
      rw [hm2, beq_iff_eq] at this
      exact this
    refine ⟨hok.1, hp, hm1, hx, hr, by rw [← premL_yes hok]; exact hl, ?_, fun z hz => ?_, ?_⟩
    · unfold inB
      rw [vsB_true hV, hasB_true hm1]
      rfl
    · rw [same_test (hr z hz) hx hp, hxe]
      exact ht z (hr z hz)
    · rw [majV_yes hok.1, same_test hx ⟨by omega, by omega⟩ hp, hxe]
      simp
  · rw [premL_no hok] at hl
    cases hl
theorem inSpace_is' (n x : Int) (a : Option Addr) (cap : Nat) (zs : List Int) (w : World) (r : Bool) (hi : Ints w a zs) (hn : zs.length ≤ 1048576) (hr : inB n zs x = r) :
    Calls Try.prog 16 #[.agg #[.int .i64 n, .slice a zs.length cap], .int .i64 x] w fun e w' => e = .returned (.bool r) ∧ Below w.heap.size w w' := by
  subst hr
  exact implInSpace_any n x a cap zs w hi hn

set_option maxHeartbeats 4000000 in
set_option maxRecDepth 100000 in
theorem walk_FnPremiseRule (a : Option Addr) (zs : List Nat) (cap : Nat) (w : World) (hi : Byts w a zs) (hl : zs.length ≤ maxLen) (hc : zs.length ≤ cap) :
    Calls Try.prog 14 #[.slice a zs.length cap] w fun e w' => e = .returned (.bool true) ∧ Below w.heap.size w w' := by
  by_cases h : 1048576 < zs.length
  · unfold maxLen at hl
    go_enter Try.func14, Try.ntmps14
    go_wp2
    go_ret
    exact ⟨rfl, Below.refl _ _⟩
  · have hl' : zs.length ≤ 1048576 := by omega
    clear h hl
    go_enter Try.func14, Try.ntmps14
    go_wp2_with fail
    refine (drawPremiseRule_any _ _ _ _ hi hl' hc).mono ?_
    rintro e w1 ⟨m, av, ss, cv, al, ls, cl, p, rfl, ii, hsl, il, hll, hb⟩
    have S0 := SV.new w1 m av ss cv al ls 25 ii il
    have HB := hide hb
    have hn : ss.length ≤ 1048576 := by omega
    have hm : ls.length ≤ 1048576 := by omega
    clear hb hi ii il hl' hsl
    obtain ⟨⟨_, c0, c1⟩, _⟩ := S0.pair
    go_wp2_with fail
    refine (implPremiseRule_any _ _ _ _ _ _ _ _ _ S0.2.1 S0.2.2.1 hn hm).mono ?_
    rintro e w2 ⟨rfl, b2⟩
    have S2 := S0.below b2
    clear c0 c1 S0 b2
    obtain ⟨⟨_, c0, c1⟩, _⟩ := S2.pair
    go_wp2_with fail
    refine (specPremiseRule_any _ _ _ _ _ _ _ _ _ S2.2.1 S2.2.2.1 hn hm).mono ?_
    rintro e w3 ⟨rfl, b3⟩
    have S3 := S2.below b3
    clear c0 c1 S2 b3
    obtain ⟨⟨_, c0, c1⟩, iz, _⟩ := S3.pair
    by_cases hB : premB m ss ls p = true
    · obtain ⟨hv, hp, hxm, hx, hr, hone, hin, htest, hmaj⟩ := prem_facts hB
      have hne : (premX m ss ls p != premX m ss ls p) = false := by simp
      have HR := hide hr
      have HO := hide hone
      have HT := hide htest
      have HIN := hide hin
      clear hv hxm hr hone htest hin hx hp
      obtain ⟨x, hxx⟩ : ∃ x, x = premX m ss ls p := ⟨_, rfl⟩
      rw [← hxx] at HT HIN hmaj hne ⊢
      rw [hB]
      have HM := hide hmaj
      clear hxx hB hmaj
      go_wp2_with fail
      go_loop [10, 11] (fun s i => ∃ k : Nat, k ≤ ss.length ∧ i = .int .i64 k ∧ s = .int .i64 ((ss.take k).filter (premP m ls p)).length) (fun _ i => ss.length - (intOf i).toNat)
      case atStart => exact ⟨0, Nat.zero_le _, rfl, rfl⟩
      case round =>
        obtain ⟨k, hk, rfl, rfl⟩ := hrel
        have hle := filter_le (premP m ls p) ss k
        by_cases hlt : k < ss.length
        · obtain ⟨b, off, rfl, hbl, hcz⟩ := iz (by omega)
          have hck := hcz k hlt
          rw [getD_lt hlt] at hck
          have ht := HT.out _ (mem_of_at hlt)
          have hft := hide (filter_take (premP m ls p) ss k hlt)
          clear hcz iz
          by_cases he : premP m ls p ss[k] = true
          · rw [he] at ht
            have HE := hide he
            clear he
            go_wp2
            go_round
            case rel => exact ⟨k + 1, by omega, by go_num, by rw [hft.out, if_pos HE.out, List.length_append]; simp⟩
            case measure => simp only [intOf]; omega
          · have he : premP m ls p ss[k] = false := by simpa using he
            rw [he] at ht
            have HE := hide he
            clear he
            go_wp2
            go_round
            case rel => exact ⟨k + 1, by omega, by go_num, by rw [hft.out, if_neg (by rw [HE.out]; decide), List.append_nil]⟩
            case measure => simp only [intOf]; omega
        · obtain rfl : k = ss.length := by omega
          have hl1 : (((ss.take ss.length).filter (premP m ls p)).length : Int) = 1 := by rw [List.take_length, HO.out]; rfl
          rw [hl1]
          clear hl1 hle
          go_wp2_with fail
          refine (inSpace_is' _ _ _ _ _ _ true S3.2.1 hn HIN.out).mono ?_
          rintro e w5 ⟨rfl, b5⟩
          have S5 := S3.below b5
          clear c0 c1 S3 b5 iz
          obtain ⟨⟨_, c0, c1⟩, _⟩ := S5.pair
          go_wp2_with fail
          refine (implMajorityOf_any _ _ _ _ _ _ _ _ S5.2.1 S5.2.2.1 hn hm).mono ?_
          rintro e w6 ⟨rfl, b6⟩
          have S6 := S5.below b6
          have hmj := HM.out
          go_wp2
          go_ret
          exact ⟨rfl, bnext HB.out S6.2.2.2⟩
    · have hB : premB m ss ls p = false := by simpa using hB
      have hne : (premX m ss ls p != premX m ss ls p) = false := by simp
      have heq : (premX m ss ls p == premX m ss ls p) = true := by simp
      rw [hB]
      clear hB iz
      go_wp2
      go_ret
      exact ⟨rfl, bnext HB.out S3.2.2.2⟩
end Go.Proofs.Ytljbapfemjdneaa
