/- WrongedBy and IsJust of the program. -/
import Derived.Test.YthkikjidkehheaaWroI
namespace Go.Proofs.Ythkikjidkehheaa
open Go.RowKit Go.Joins

theorem wrap_pow_nat (n : Nat) (h : n ≤ 6) : wrap64 (2 ^ n) = ((2 ^ n : Nat) : Int) := by
  rw [Int.natCast_pow]
  exact IntWalk.wrap64_in _ (by
    rcases (show n = 0 ∨ n = 1 ∨ n = 2 ∨ n = 3 ∨ n = 4 ∨ n = 5 ∨ n = 6 from by omega) with rfl | rfl | rfl | rfl | rfl | rfl | rfl <;> decide)
set_option maxHeartbeats 4000000 in
set_option maxRecDepth 100000 in
theorem firstWronged_any (q : Nat) (hq : 1 ≤ q ∧ q ≤ 3) (m : Nat) (a : Option Addr) (cap : Nat) (bs : List Int) (k x : Nat) (w : World) (hi : Ints w a bs) (hl6 : bs.length ≤ 6) (hl1 : 1 ≤ bs.length)
    (hr : ∀ b ∈ bs, 0 ≤ b ∧ b ≤ ((2 ^ m : Nat) : Int) - 1) (hm5 : m ≤ 5) (hk5 : k ≤ 5) (hx : x < 32) :
    Calls Try.prog 42 #[.int .i64 q, .slice a bs.length cap, .int .i64 k, .int .i64 x] w fun e w' => WroE (scan (badB q bs m k x) (2 ^ bs.length) k 1) e ∧ Below w.heap.size w w' := by
  have HQ := hide hq
  have h2m : 2 ^ m ≤ 2 ^ 5 := Nat.pow_le_pow_right (by omega) hm5
  have HR := hide hr
  have HR2 : Hid (∀ b ∈ bs, 0 ≤ b ∧ b ≤ 31) := fun b hb => by have := hr b hb; omega
  clear hr hq h2m
  obtain ⟨M, hM⟩ : ∃ M, M = 2 ^ bs.length := ⟨_, rfl⟩
  have hM64 : M ≤ 64 := by rw [hM]; exact pow_le6 _ hl6
  have HWR : Hid (wrap64 (2 ^ bs.length) = (M : Int)) := by unfold Hid; rw [hM]; exact wrap_pow_nat _ hl6
  have HLEN : Hid (∀ g, (memL bs g).length ≤ bs.length) := fun g => memK_len bs g _
  have HMEM : Hid (∀ g, ∀ z ∈ memL bs g, z ∈ bs) := fun g => memK_mem bs g _ (Nat.le_refl _)
  rw [← hM]
  obtain ⟨p, hp⟩ : ∃ p, p = badB q bs m k x := ⟨_, rfl⟩
  have HP := hide hp
  rw [← hp]
  clear hM hp
  go_enter Try.func42, Try.ntmps42
  go_wp2
  go_loopw [10] (fun i wr => ∃ l : Nat, 1 ≤ l ∧ l ≤ k + 1 ∧ i = .int .i64 l ∧ Hid (scan p M k 1 = scan p M (k + 1 - l) l) ∧ Below w.heap.size w wr) (fun i _ => k + 1 - (intOf i).toNat)
  case atStart => exact ⟨1, Nat.le_refl _, by omega, rfl, rfl, Below.refl _ _⟩
  case round =>
    obtain ⟨l, hl1', hlk, rfl, HS, BR⟩ := hrel
    by_cases hlt : l ≤ k
    · go_wp2
      rw [HWR.out]
      obtain ⟨wq0, hwq⟩ : ∃ wq : World, wq = wr := ⟨_, rfl⟩
      subst hwq
      go_loopw [21] (fun i wq => ∃ g : Nat, g ≤ M ∧ i = .int .i64 g ∧ Hid (∀ z, z < g → p l z = false) ∧ Below w.heap.size w wq) (fun i _ => M - (intOf i).toNat)
      case atStart => exact ⟨0, Nat.zero_le _, rfl, fun z hz => by omega, BR⟩
      case round =>
        clear BR
        obtain ⟨g, hg, rfl, HA, BR⟩ := hrel
        by_cases hgM : g < M
        · have HNX := hide (fun (h : p l g = false) z (hz : z < g + 1) => (by
            rcases Nat.lt_or_ge z g with hzy | hzy
            · exact HA.out z hzy
            · obtain rfl : z = g := by omega
              exact h : p l z = false))
          have HB1 : Hid (dueB (memL bs g) m bs.length k l = false → p l g = false) := fun h => by rw [HP.out]; exact badB_due h
          have HB2 : Hid (dueB (memL bs g) m bs.length k l = true → p l g = wrongB q (memL bs g) l x) := fun h => by rw [HP.out]; exact badB_yes h
          have iol := hi.below BR
          obtain ⟨ms, hms⟩ : ∃ ms, ms = memL bs g := ⟨_, rfl⟩
          have hml : ms.length ≤ bs.length := by rw [hms]; exact HLEN.out g
          have HM1 : Hid (∀ z ∈ ms, 0 ≤ z ∧ z ≤ ((2 ^ m : Nat) : Int) - 1) := fun z hz => HR.out z (HMEM.out g z (by rw [← hms]; exact hz))
          have HM2 : Hid (∀ z ∈ ms, 0 ≤ z ∧ z ≤ 31) := fun z hz => HR2.out z (HMEM.out g z (by rw [← hms]; exact hz))
          rw [← hms] at HB1 HB2
          have HMS := hide hms
          clear hms
          by_cases hd : dueB ms m bs.length k l = true
          · have HD := hide hd
            by_cases hw : wrongB q ms l x = true
            · have HHIT := hide (scan_hit (p := p) (f := k - l) hgM ((HB2.out hd).trans hw) HA.out)
              have HM : Hid (k - l + 1 = k + 1 - l) := by unfold Hid; omega
              go_wp2_with fail
              refine (membersOf_any _ _ _ g _ iol hl6 (by omega)).mono ?_
              rintro e w2 ⟨v, rfl, own, hb2⟩
              rw [← HMS.out] at own
              obtain ⟨av, cv, rfl, iv, _⟩ := own.form
              clear own
              go_wp2_with (go_at_call 65; refine (isDue_any m _ _ ms l bs.length k _ iv (by omega) HM1.out hm5 hl1' (by omega) hl1 hl6 (by omega)).mono ?_; rintro e w' ⟨rfl, rfl⟩)
              refine (wrongs_any q HQ.out _ _ ms l x _ iv (by omega) HM2.out hl1' hx).mono ?_
              rintro e w3 ⟨rfl, hb3⟩
              go_wp2
              go_ret2
              exact ⟨wro_some (by rw [HS.out, ← HM.out]; exact HHIT.out), bnext (bnext BR hb2) hb3⟩
            · have hw : wrongB q ms l x = false := by simpa using hw
              have HNO := hide ((HB2.out hd).trans hw)
              go_wp2_with fail
              refine (membersOf_any _ _ _ g _ iol hl6 (by omega)).mono ?_
              rintro e w2 ⟨v, rfl, own, hb2⟩
              rw [← HMS.out] at own
              obtain ⟨av, cv, rfl, iv, _⟩ := own.form
              clear own
              go_wp2_with (go_at_call 65; refine (isDue_any m _ _ ms l bs.length k _ iv (by omega) HM1.out hm5 hl1' (by omega) hl1 hl6 (by omega)).mono ?_; rintro e w' ⟨rfl, rfl⟩)
              refine (wrongs_any q HQ.out _ _ ms l x _ iv (by omega) HM2.out hl1' hx).mono ?_
              rintro e w3 ⟨rfl, hb3⟩
              go_wp2
              go_roundw
              case rel => exact ⟨g + 1, by omega, by go_num, HNX.out HNO.out, bnext (bnext BR hb2) hb3⟩
              case measure => simp only [intOf]; omega
          · have hd : dueB ms m bs.length k l = false := by simpa using hd
            have HNO := hide (HB1.out hd)
            go_wp2_with fail
            refine (membersOf_any _ _ _ g _ iol hl6 (by omega)).mono ?_
            rintro e w2 ⟨v, rfl, own, hb2⟩
            rw [← HMS.out] at own
            obtain ⟨av, cv, rfl, iv, _⟩ := own.form
            clear own
            go_wp2_with (go_at_call 65; refine (isDue_any m _ _ ms l bs.length k _ iv (by omega) HM1.out hm5 hl1' (by omega) hl1 hl6 (by omega)).mono ?_; rintro e w' ⟨rfl, rfl⟩)
            go_roundw
            case rel => exact ⟨g + 1, by omega, by go_num, HNX.out HNO.out, bnext BR hb2⟩
            case measure => simp only [intOf]; omega
        · obtain rfl : M = g := by omega
          have HMI := hide (scan_miss (f := k - l) HA.out)
          have HM : Hid (k - l + 1 = k + 1 - l) := by unfold Hid; omega
          have HM2 : Hid (k - l = k + 1 - (l + 1)) := by unfold Hid; omega
          go_wp2
          go_roundw
          case rel => exact ⟨l + 1, by omega, by omega, by go_num, show _ = _ by rw [HS.out, ← HM.out, HMI.out, HM2.out], BR⟩
          case measure => simp only [intOf]; omega
    · obtain rfl : l = k + 1 := by omega
      go_wp2
      go_ret2
      exact ⟨wro_none (by rw [HS.out, Nat.sub_self]; rfl), BR⟩
set_option maxHeartbeats 4000000 in
theorem implIsJust_any (s : ByteArray) (c : Int) (a : Option Addr) (cap : Nat) (bs : List Int) (k x : Int) (w : World) (hi : Ints w a bs) (hn : bs.length ≤ 1048576) :
    Calls Try.prog 21 #[.string s, .int .i64 c, .slice a bs.length cap, .int .i64 k, .int .i64 x] w fun e w' => e = .returned (.bool (justB s c bs k x)) ∧ Below w.heap.size w w' := by
  by_cases hs : claimN s = 0
  · have HF := hide (just_claim (c := c) (bs := bs) (k := k) (x := x) hs)
    have HS := hide hs
    clear hs
    go_enter Try.func21, Try.ntmps21
    go_wp2_with (go_at_call 40; refine (claimNamed_any _ _).mono ?_; rintro e w' ⟨rfl, rfl⟩; rw [HS.out])
    go_ret
    exact ⟨ret_bool HF.out.symm, Below.refl _ _⟩
  · have HC : Hid (1 ≤ claimN s ∧ claimN s ≤ 3) := by
      unfold Hid
      rcases claim_cases s with ⟨h, _⟩ | ⟨h, _⟩ | ⟨h, _⟩ | ⟨h, _⟩ <;> omega
    have hcz : ((claimN s : Int) == 0) = false := by simpa using hs
    by_cases hv : seatedB c bs k x = true
    · have HJ := hide (just_eq hs hv)
      have HW := hide (wroA_yes hs hv)
      have hse := seated_of hv
      have hS := seats_of hse.1
      have hl6 : bs.length ≤ 6 := by have := hS.1.2.1; omega
      have hl1 : 1 ≤ bs.length := by have := hS.1.2.1; omega
      have p5 := pw_le5 c hS.1.1.2
      have hm := bal_mem hS.1
      obtain ⟨y, rfl⟩ := Int.eq_ofNat_of_zero_le hse.2.1.1
      have hy32 : y < 32 := by have := hse.2.1.2; omega
      obtain ⟨m, rfl⟩ := Int.eq_ofNat_of_zero_le (show 0 ≤ c from by have := hS.1.1; omega)
      obtain ⟨K, rfl⟩ := Int.eq_ofNat_of_zero_le (show 0 ≤ k from by have := hS.2; omega)
      have hm5 : m ≤ 5 := by have := hS.1.1; omega
      have hK5 : K ≤ 5 := by have := hS.2; omega
      rw [Int.toNat_natCast, Int.toNat_natCast, Int.toNat_natCast] at HW
      rw [pw_nat] at hm
      have HR := hide hm
      have HV : Hid (wroG s m bs K y = ((scR (scan (badB (claimN s) bs m K y) (2 ^ bs.length) K 1) : Nat) : Int) ∧ wroL s m bs K y = ((scL (scan (badB (claimN s) bs m K y) (2 ^ bs.length) K 1) : Nat) : Int)) := by
        unfold Hid wroG wroL
        rw [HW.out]
        exact ⟨rfl, rfl⟩
      clear hs hse hS p5 hm
      go_enter Try.func21, Try.ntmps21
      go_wp2_with (go_at_call 40; refine (claimNamed_any _ _).mono ?_; rintro e w' ⟨rfl, rfl⟩)
      refine (mayBeSeated_any _ _ _ _ _ _ _ hi hn).mono ?_
      rintro e w1 ⟨rfl, hb1⟩
      go_wp2_with fail
      refine (firstWronged_any (claimN s) HC.out m _ _ _ K y _ (hi.below hb1) hl6 hl1 HR.out hm5 hK5 hy32).mono ?_
      rintro e w2 ⟨he, hb2⟩
      have he' : e = .returned (.tuple #[.int .i64 (scR (scan (badB (claimN s) bs m K y) (2 ^ bs.length) K 1) : Nat), .int .i64 (scL (scan (badB (claimN s) bs m K y) (2 ^ bs.length) K 1) : Nat)]) := he
      subst he'
      clear he
      go_wp2
      go_ret
      exact ⟨ret_bool (by rw [HJ.out, HV.out.1]), bnext hb1 hb2⟩
    · have hv : seatedB c bs k x = false := by simpa using hv
      have HF := hide (just_seat (s := s) hv)
      clear hs
      go_enter Try.func21, Try.ntmps21
      go_wp2_with (go_at_call 40; refine (claimNamed_any _ _).mono ?_; rintro e w' ⟨rfl, rfl⟩)
      refine (mayBeSeated_any _ _ _ _ _ _ _ hi hn).mono ?_
      rintro e w1 ⟨rfl, hb1⟩
      go_wp2
      go_ret
      exact ⟨ret_bool HF.out.symm, hb1⟩
end Go.Proofs.Ythkikjidkehheaa
