/- The promise of IsServed: its draw and its law's walk. -/
import Derived.Test.YtgkaghappogglaaPJust
import Derived.Test.YtgkaghappogglaaServ
import Derived.Test.YtgkaghappogglaaGrp
namespace Go.Proofs.Ytgkaghappogglaa
open Go.RowKit Go.Joins

theorem filter_two (p q : Int → Bool) (bs : List Int) : (bs.filter p).filter q = bs.filter (fun b => p b && q b) := by
  rw [List.filter_filter]
  congr 1
  funext b
  exact Bool.and_comm _ _
/-- who is served is not wronged by one -/
theorem serv_just {c : Int} {bs : List Int} {k x : Int} : servB c bs k x = justB oneS c bs k x := by
  cases hs : seatedB c bs k x with
  | false => rw [servB_no hs, just_seat hs]
  | true =>
    have hx := seated_lt hs
    obtain ⟨hS, _, _⟩ := seated_of hs
    obtain ⟨hok, hk1, hkc⟩ := seats_of hS
    obtain ⟨m, rfl⟩ := Int.eq_ofNat_of_zero_le (show 0 ≤ c from by omega)
    obtain ⟨k, rfl⟩ := Int.eq_ofNat_of_zero_le (show 0 ≤ k from by omega)
    have hm5 : m ≤ 5 := by have := hok.1; omega
    have hmem := bal_mem hok
    rw [pw_nat] at hmem
    have h32 : 2 ^ m ≤ 32 := pow_le5 (m : Int) (by omega)
    have hn1 : 1 ≤ bs.length := by have := hok.2.1.1; omega
    rw [Bool.eq_iff_iff, just_iff (by rw [claim_one]; decide) hs, claim_one]
    constructor
    · intro hsv l h1 h2 g hg
      rw [Bool.eq_false_iff]
      intro hbad
      unfold badB at hbad
      rw [Bool.and_eq_true, due_iff, wrong1_iff] at hbad
      obtain ⟨⟨hd1, hd2⟩, rfl, hw⟩ := hbad
      rw [Int.toNat_natCast] at hd1 hd2
      have hal := andL_le (memL bs g) (2 ^ m - 1)
      obtain ⟨j, hj5, hj⟩ := pc_pos (by omega) hd2
      rw [andL_bit] at hj
      obtain ⟨hjm, hjb⟩ := hj
      have hjm2 : j < m := by
        rw [Nat.testBit_two_pow_sub_one, decide_eq_true_eq] at hjm
        exact hjm
      have hall : (memL bs g).filter (fun b => pB x.toNat b && tbB j b) = memL bs g := by
        rw [List.filter_eq_self]
        intro b hb
        rw [Bool.and_eq_true]
        refine ⟨?_, hjb b hb⟩
        have := hw b hb
        unfold pB
        rw [beq_iff_eq]
        exact (pc_zero_iff _ (and_lt b x.toNat hx)).1 (by omega)
      have hle : (memL bs g).length ≤ wantN bs x.toNat j := by
        rw [← hall]
        unfold wantN
        rw [supN_fil, filter_two]
        exact ((memL_sub bs g).filter _).length_le
      have hneed : needs bs x.toNat (k : Int) j = true := by
        unfold needs
        rw [decide_eq_true_eq]
        have hpos : 0 < (memL bs g).length := by
          rcases Nat.eq_zero_or_pos (memL bs g).length with e | e
          · rw [e] at hd1; omega
          · exact e
        refine ⟨by omega, ?_⟩
        have h3 : (memL bs g).length * k ≤ wantN bs x.toNat j * k := Nat.mul_le_mul_right _ hle
        have h4 : bs.length ≤ wantN bs x.toNat j * k := by omega
        exact_mod_cast h4
      rw [servB_need (by rw [Int.toNat_natCast]; exact hjm2) hneed] at hsv
      cases hsv
    · intro hj
      refine servB_yes hs (fun j hjm => ?_)
      rw [Int.toNat_natCast] at hjm
      rw [Bool.eq_false_iff]
      intro hneed
      unfold needs at hneed
      rw [decide_eq_true_eq] at hneed
      obtain ⟨hp, hq⟩ := hneed
      obtain ⟨g, hg, hgm⟩ := grp_ex (fun b => pB x.toNat b && tbB j b) bs
      have hlen : (memL bs g).length = wantN bs x.toNat j := by
        rw [hgm]; unfold wantN; rw [supN_fil, filter_two]
      have hall : ∀ b ∈ memL bs g, b ∈ bs ∧ pB x.toNat b = true ∧ tbB j b = true := by
        intro b hb
        rw [hgm, List.mem_filter, Bool.and_eq_true] at hb
        exact hb
      have hbad : badB 1 bs m k x.toNat 1 g = true := by
        unfold badB
        rw [Bool.and_eq_true, due_iff, wrong1_iff]
        refine ⟨⟨?_, ?_⟩, rfl, fun b hb => ?_⟩
        · rw [hlen, Nat.one_mul]
          exact_mod_cast hq
        · refine pc_one (j := j) ?_ ?_
          · have := andL_le (memL bs g) (2 ^ m - 1); omega
          · rw [andL_bit]
            refine ⟨?_, fun b hb => (hall b hb).2.2⟩
            rw [Nat.testBit_two_pow_sub_one, decide_eq_true_eq]
            exact hjm
        · have h1 := (hall b hb).2.1
          unfold pB at h1
          rw [beq_iff_eq] at h1
          rw [h1]; decide
      have := hj 1 (Nat.le_refl _) (by rw [Int.toNat_natCast]; omega) g hg
      rw [Int.toNat_natCast, Int.toNat_natCast, hbad] at this
      cases this
/-- What a draw of ballots, seats and a committee leaves. -/
def DrawV (w : World) (e : Ending) (w' : World) : Prop :=
  ∃ (c : Int) (a : Option Addr) (bs : List Int) (cap : Nat) (k x : Int), e = .returned (.tuple #[.int .i64 c, .slice a bs.length cap, .int .i64 k, .int .i64 x]) ∧ (0 ≤ c ∧ c ≤ 6) ∧ Ints w' a bs ∧ bs.length ≤ 6 ∧ (0 ≤ x ∧ x ≤ 31) ∧ Below w.heap.size w w'
set_option maxHeartbeats 1000000 in
theorem drawServ_any (a : Option Addr) (cap : Nat) (zs : List Nat) (w : World) (hi : Byts w a zs) (hl : zs.length ≤ 1048576) (hc : zs.length ≤ cap) :
    Calls Try.prog 51 #[.slice a zs.length cap] w (DrawV w) := by
  go_enter Try.func51, Try.ntmps51
  go_wp2_with fail
  refine (drawW_any _ _ _ _ hi hl hc).mono ?_
  rintro e w1 ⟨s, c, ab, bs, cb, k, x, rfl, hc6, ib, hb6, hx, hb1⟩
  go_wp2
  (try simp only [Exit.inBlock, Exit.then])
  refine bodyPost_ret (results_tmp4 rfl _ _ _) rfl ?_
  exact ⟨c, ab, bs, cb, k, x, rfl, hc6, ib, hb6, hx, hb1⟩
set_option maxHeartbeats 4000000 in
set_option maxRecDepth 100000 in
theorem walk_FnIsServed (a : Option Addr) (zs : List Nat) (cap : Nat) (w : World) (hi : Byts w a zs) (hl : zs.length ≤ maxLen) (hc : zs.length ≤ cap) :
    Calls Try.prog 12 #[.slice a zs.length cap] w fun e w' => e = .returned (.bool true) ∧ Below w.heap.size w w' := by
  by_cases h : 1048576 < zs.length
  · unfold maxLen at hl
    go_enter Try.func12, Try.ntmps12
    go_wp2
    go_ret
    exact ⟨rfl, Below.refl _ _⟩
  · have hl' : zs.length ≤ 1048576 := by omega
    clear h hl
    go_enter Try.func12, Try.ntmps12
    go_wp2_with fail
    refine (drawServ_any _ _ _ _ hi hl' hc).mono ?_
    rintro e w1 ⟨c, ab, bs, cb, k, x, rfl, hc6, ib, hb6, hx, hb1⟩
    have hn : bs.length ≤ 1048576 := by omega
    clear hi
    have hne0 : ((servB c bs k x) != (servB c bs k x)) = false := by simp
    go_wp2_with fail
    refine (implServ_any _ _ _ _ _ _ _ ib hn).mono ?_
    rintro e w2 ⟨rfl, hb2⟩
    have ib2 := ib.below hb2
    have B2 := bnext hb1 hb2
    clear ib hb1 hb2
    go_wp2_with fail
    refine (specServ_any _ _ _ _ _ _ _ ib2 hn).mono ?_
    rintro e w3 ⟨rfl, hb3⟩
    have ib3 := ib2.below hb3
    have B3 := bnext B2 hb3
    clear ib2 B2 hb3
    go_wp2_with fail
    refine (implBal_any _ _ _ _ _ ib3 hn).mono ?_
    rintro e w4 ⟨rfl, hb4⟩
    have ib4 := ib3.below hb4
    have B4 := bnext B3 hb4
    clear ib3 B3 hb4
    by_cases hv : balB c bs = true
    · go_wp2_with fail
      refine (implIsJust_any oneS _ _ _ _ _ _ _ ib4 hn).mono ?_
      rintro e w5 ⟨rfl, hb5⟩
      rw [← serv_just]
      go_wp2
      go_ret
      exact ⟨ret_bool (by simp), bnext B4 hb5⟩
    · have hv : balB c bs = false := by simpa using hv
      go_wp2_with fail
      refine (specServ_any _ _ _ _ _ _ _ ib4 hn).mono ?_
      rintro e w5 ⟨rfl, hb5⟩
      go_wp2
      go_ret
      exact ⟨ret_bool (by simp), bnext B4 hb5⟩
end Go.Proofs.Ytgkaghappogglaa
