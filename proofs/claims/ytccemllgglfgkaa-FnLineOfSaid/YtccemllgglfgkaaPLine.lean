/- The law of LineOf answers true at every code: its walk. -/
import Derived.Test.YtccemllgglfgkaaDrawT
import Derived.Test.YtccemllgglfgkaaLawH
import Derived.Test.YtccemllgglfgkaaLinP
import Derived.Deep.RegionHeld3
import Derived.Deep.DeepCutAuto
namespace Go.Proofs.Ytccemllgglfgkaa
open Go.RowKit Go.Joins

theorem isIn_len (x : Int) (a : Option Addr) (cap K : Nat) (zs : List Int) (w : World) (hi : Ints w a zs) (hK : zs.length = K) (hn : K ≤ 1048576) (h : x ∈ zs) :
    Calls Try.prog 23 #[.slice a K cap, .int .i64 x] w fun e w' => e = .returned (.bool true) ∧ w = w' := by
  subst hK
  rw [← hasB_true h]
  exact isIn_any x a cap zs w hi hn
set_option maxHeartbeats 8000000 in
set_option maxRecDepth 100000 in
theorem walk_FnLineOf (a : Option Addr) (zs : List Nat) (cap : Nat) (w : World) (hi : Byts w a zs) (hl : zs.length ≤ maxLen) (hc : zs.length ≤ cap) :
    Calls Try.prog 4 #[.slice a zs.length cap] w fun e w' => e = .returned (.bool true) ∧ Below w.heap.size w w' := by
  by_cases h : 1048576 < zs.length
  · unfold maxLen at hl
    go_enter Try.func4, Try.ntmps4
    go_wp2
    go_ret
    exact ⟨rfl, Below.refl _ _⟩
  · have hl' : zs.length ≤ 1048576 := by omega
    clear h hl
    go_enter Try.func4, Try.ntmps4
    go_wp2_with fail
    refine (drawLineOf_any _ _ _ _ hi hl' hc).mono ?_
    rintro e w1 ⟨m, av, ss, cv, al, ls, cl, rfl, ii, hsl, il, hll, hb⟩
    have S0 := SV.new w1 m av ss cv al ls 28 ii il
    have HB := hide hb
    have hn : ss.length ≤ 1048576 := by omega
    have hm : ls.length ≤ 1048576 := by omega
    have HLL := hide (Nat.le_trans (liV_len m ss ls) (show 5 ≤ 1048576 by omega))
    have HF : Hid (0 < (liV m ss ls).length → (liV m ss ls).length = ls.length ∧ (∀ i : Nat, i < ls.length → (i : Int) ∈ liV m ss ls) ∧ (ls.length % 2 = 1 → ∃ q : Nat, q < ls.length ∧ (liV m ss ls).getD (ls.length / 2) 0 = (q : Int) ∧ ls.getD q 0 = majV m ss ls)) := fun h => by
      by_cases hv : vvB m ss ls = true
      · exact line_facts hv h
      · rw [liV_no (by simpa using hv)] at h; simp at h
    have hO : liO m ss ls = decide (0 < (liV m ss ls).length) := rfl
    have hMJ := fun w hi hj => implMajorityOf_any m av al cv cl ss ls w hi hj hn hm
    obtain ⟨L, hL⟩ : ∃ L, liV m ss ls = L := ⟨_, rfl⟩
    obtain ⟨o, ho⟩ : ∃ o, liO m ss ls = o := ⟨_, rfl⟩
    obtain ⟨x, hx⟩ : ∃ x, majV m ss ls = x := ⟨_, rfl⟩
    have hi0 := fun w hi hj => implLineOf_any m av al cv cl ss ls w hi hj hn hm
    have hs0 := fun w hi hj => specLineOf_any m av al cv cl ss ls w hi hj hn hm
    rw [hL, ho] at hi0 hs0 hO
    rw [hL, hx] at HF
    rw [hL] at HLL
    rw [hx] at hMJ
    have HI := hide hi0
    have HS := hide hs0
    have HMJ := hide hMJ
    have HOO := hide hO
    have hoo : (o != o) = false := by simp
    have hoe : (o == o) = true := by simp
    clear hb hi ii il hl' hsl hx hi0 hs0 hMJ hL ho hO
    obtain ⟨⟨_, c0, c1⟩, _⟩ := S0.pair
    go_wp2_with fail
    refine (HI.out _ S0.2.1 S0.2.2.1).mono ?_
    rintro e w2 ⟨v2, rfl, ow2, b2⟩
    have S2 := S0.below b2
    obtain ⟨a2, k2, rfl, i2, _⟩ := ow2.form
    clear c0 c1 S0 ow2 b2
    obtain ⟨⟨_, c0, c1⟩, _⟩ := S2.pair
    go_wp2_with fail
    refine (HS.out _ S2.2.1 S2.2.2.1).mono ?_
    rintro e w3 ⟨v3, rfl, ow3, b3⟩
    have S3 := S2.below b3
    have i23 := i2.below b3
    obtain ⟨a3, k3, rfl, i3, _⟩ := ow3.form
    clear c0 c1 S2 ow3 b3 i2
    go_wp2_with fail
    refine (equalInts_yes _ _ _ _ _ _ i23 i3 HLL.out).mono ?_
    rintro e w4 ⟨rfl, b4⟩
    have SC := S3.below b4
    have i24 := i23.below b4
    have i34 := i3.below b4
    clear S3 b4 i23 i3
    by_cases hp : 0 < L.length
    · obtain rfl : o = true := HOO.out.trans (decide_eq_true hp)
      obtain ⟨hlen, hmem, hodd⟩ := HF.out hp
      obtain ⟨N, hN⟩ : ∃ N, ls.length = N := ⟨_, rfl⟩
      rw [hN] at hlen hmem hodd hll ⊢
      rw [hlen]
      have hmj := HMJ.out
      rw [hN] at hmj
      clear HMJ
      have HMJ := hide hmj
      clear hmj
      have HLN := hide hlen
      have HLS := hide hN
      have HMEM := hide hmem
      have HODD := hide hodd
      have hNp : 0 < N := by omega
      clear HOO hoo hoe HF hlen hmem hodd hN i34
      go_wp2
      go_loopw [10] (fun i wr => ∃ k : Nat, k ≤ N ∧ i = .int .i64 k ∧ wr = w4) (fun i _ => N - (intOf i).toNat)
      case atStart => exact ⟨0, Nat.zero_le _, rfl, rfl⟩
      case round =>
        obtain ⟨k, hk, rfl, rfl⟩ := hrel
        by_cases hlt : k < N
        · go_wp2_with (go_at_call 23; refine (isIn_len _ _ _ _ _ _ i24 HLN.out (by omega) (HMEM.out k hlt)).mono ?_; rintro e w' ⟨rfl, rfl⟩)
          go_roundw
          case rel => exact ⟨k + 1, by omega, by go_num, by first | trivial | rfl⟩
          case measure => simp only [intOf]; omega
        · obtain rfl : k = N := by omega
          have SD := SC
          obtain ⟨⟨hlt1, c0, c1⟩, _, il4, _⟩ := SC.pair
          by_cases ho : k % 2 = 1
          · obtain ⟨q, hq, hqe, hqx⟩ := HODD.out ho
            obtain ⟨ob, oo, rfl, hob, hoc⟩ := i24 hp
            obtain ⟨lb, lo, rfl, hlb, hlc⟩ := il4 (by rw [HLS.out]; exact hNp)
            have hM : k / 2 < k := by omega
            have e1 : (k : Int) % 2 = 1 := by omega
            have e2 : Int.tmod (k : Int) 2 = 1 := by rw [Int.tmod_eq_emod_of_nonneg (by omega)]; exact e1
            have e3 : (k : Int) / 2 = ((k / 2 : Nat) : Int) := by omega
            have e4 : Int.tdiv (k : Int) 2 = ((k / 2 : Nat) : Int) := by rw [Int.tdiv_eq_ediv_of_nonneg (by omega)]; exact e3
            have hco := hoc (k / 2) (by rw [HLN.out]; exact hM)
            have hcl := hlc q (by rw [HLS.out]; exact hq)
            rw [hqe] at hco
            rw [hqx] at hcl
            obtain ⟨M, hMe⟩ : ∃ M, k / 2 = M := ⟨_, rfl⟩
            rw [hMe] at hM e3 e4 hco
            have hwM : IntKind.i64.wrap (M : Int) = (M : Int) := IntWalk.i64_in _ (by omega)
            have HKE := hide (fun (W : World) (hb : Below wr.heap.size wr W) => (⟨(hb.cell (p := ⟨w1.heap.size, 0, none⟩) hlt1).trans c0, (hb.cell (p := ⟨w1.heap.size, 1, none⟩) hlt1).trans c1, (hb.cell (p := ⟨ob, oo + M, none⟩) hob).trans hco, (hb.cell (p := ⟨lb, lo + q, none⟩) hlb).trans hcl⟩ :
              W.cell? ⟨w1.heap.size, 0, none⟩ = some (.int .i64 m) ∧ W.cell? ⟨w1.heap.size, 1, none⟩ = some (.slice av ss.length cv) ∧ W.cell? ⟨ob, oo + M, none⟩ = some (.int .i64 (q : Int)) ∧ W.cell? ⟨lb, lo + q, none⟩ = some (.int .i64 x)))
            clear hqe hqx hoc hlc hMe ho il4
            go_upto_region 14 with fail
            refine wp_region_held_drew (S := (fun w' => w'.cell? ⟨w1.heap.size, 0, none⟩ = some (.int .i64 m) ∧ w'.cell? ⟨w1.heap.size, 1, none⟩ = some (.slice av ss.length cv) ∧ w'.cell? ⟨ob, oo + M, none⟩ = some (.int .i64 (q : Int)) ∧ w'.cell? ⟨lb, lo + q, none⟩ = some (.int .i64 x))) (by kernel_rfl) ?_ (fun hHeld => ?_)
            · exact HKE.out _ (bdrew' (Below.refl _ _))
            refine wpAnyH_take (i := 0) (v := ?vvt1) rfl (by kernel_rfl) (by kernel_rfl) (by kernel_rfl) (fun _ _ _ h => h) (Or.inl ⟨by rfl, ?hyt1⟩) (by assumption) ?restt1
            case hyt1 => (intro w hSw; (try dsimp only at hSw); go_simp; (try with_reducible rfl))
            case restt1 =>
              (try simp only [Act.put, List.setIfInBounds_toArray, List.set_cons_zero, List.set_cons_succ, List.getElem_toArray, List.getElem_cons_zero])
              refine wpAnyH_take (i := 1) (v := ?vvt2) rfl (by kernel_rfl) (by kernel_rfl) (by kernel_rfl) (fun _ _ _ h => h) (Or.inl ⟨by rfl, ?hyt2⟩) (by assumption) ?restt2
              case hyt2 => (intro w hSw; (try dsimp only at hSw); go_simp; (try with_reducible rfl))
              case restt2 =>
                (try simp only [Act.put, List.setIfInBounds_toArray, List.set_cons_zero, List.set_cons_succ, List.getElem_toArray, List.getElem_cons_zero, List.getElem_cons_succ])
                refine wpAnyH_take (i := 2) (v := ?vvt3) rfl (by kernel_rfl) (by kernel_rfl) (by kernel_rfl) (fun _ _ _ h => h) (Or.inl ⟨by rfl, ?hyt3⟩) (by assumption) ?restt3
                case hyt3 => (intro w hSw; (try dsimp only at hSw); go_simp; (try with_reducible rfl))
                case restt3 =>
                  (try simp only [Act.put, List.setIfInBounds_toArray, List.set_cons_zero, List.set_cons_succ, List.getElem_toArray, List.getElem_cons_zero, List.getElem_cons_succ])
                  refine wpAnyH_take (i := 3) (v := ?vvt4) rfl (by kernel_rfl) (by kernel_rfl) (by kernel_rfl) (fun _ _ _ h => h) (Or.inl ⟨by rfl, ?hyt4⟩) (by assumption) ?restt4
                  case hyt4 => (intro w hSw; (try dsimp only at hSw); go_simp; (try with_reducible rfl))
                  case restt4 =>
                    (try simp only [Act.put, List.setIfInBounds_toArray, List.set_cons_zero, List.set_cons_succ, List.getElem_toArray, List.getElem_cons_zero, List.getElem_cons_succ])
                    refine wpAnyH_take (i := 4) (v := ?vvt5) rfl (by kernel_rfl) (by kernel_rfl) (by kernel_rfl) (fun _ _ _ h => h) (Or.inl ⟨by rfl, ?hyt5⟩) (by assumption) ?restt5
                    case hyt5 => (intro w hSw; (try dsimp only at hSw); go_simp; (try with_reducible rfl))
                    case restt5 =>
                      (try simp only [Act.put, List.setIfInBounds_toArray, List.set_cons_zero, List.set_cons_succ, List.getElem_toArray, List.getElem_cons_zero, List.getElem_cons_succ])
                      refine wpAnyH_take (i := 5) (v := ?vvt6) rfl (by kernel_rfl) (by kernel_rfl) (by kernel_rfl) (fun _ _ _ h => h) (Or.inl ⟨by rfl, ?hyt6⟩) (by assumption) ?restt6
                      case hyt6 => (intro w hSw; (try dsimp only at hSw); go_simp; (try with_reducible rfl))
                      case restt6 =>
                        (try simp only [Act.put, List.setIfInBounds_toArray, List.set_cons_zero, List.set_cons_succ, List.getElem_toArray, List.getElem_cons_zero, List.getElem_cons_succ])
                        refine wpAnyH_take (i := 6) (v := ?vvt7) rfl (by kernel_rfl) (by kernel_rfl) (by kernel_rfl) (fun _ _ _ h => h) (Or.inl ⟨by rfl, ?hyt7⟩) (by assumption) ?restt7
                        case hyt7 => (intro w hSw; (try dsimp only at hSw); go_simp; (try with_reducible rfl))
                        case restt7 =>
                          (try simp only [Act.put, List.setIfInBounds_toArray, List.set_cons_zero, List.set_cons_succ, List.getElem_toArray, List.getElem_cons_zero, List.getElem_cons_succ])
                          refine wpAnyH_take (i := 7) (v := ?vvt8) rfl (by kernel_rfl) (by kernel_rfl) (by kernel_rfl) (fun _ _ _ h => h) (Or.inl ⟨by rfl, ?hyt8⟩) (by assumption) ?restt8
                          case hyt8 => (intro w hSw; (try dsimp only at hSw); go_simp; (try with_reducible rfl))
                          case restt8 =>
                            (try simp only [Act.put, List.setIfInBounds_toArray, List.set_cons_zero, List.set_cons_succ, List.getElem_toArray, List.getElem_cons_zero, List.getElem_cons_succ])
                            refine wpAnyH_take (i := 8) (v := ?vvt9) rfl (by kernel_rfl) (by kernel_rfl) (by kernel_rfl) (fun _ _ _ h => h) (Or.inl ⟨by rfl, ?hyt9⟩) (by assumption) ?restt9
                            case hyt9 => (intro w hSw; (try dsimp only at hSw); go_simp; (try with_reducible rfl))
                            case restt9 =>
                              (try simp only [Act.put, List.setIfInBounds_toArray, List.set_cons_zero, List.set_cons_succ, List.getElem_toArray, List.getElem_cons_zero, List.getElem_cons_succ])
                              refine wpAnyH_take (i := 9) (v := ?vvt10) rfl (by kernel_rfl) (by kernel_rfl) (by kernel_rfl) (fun _ _ _ h => h) (Or.inl ⟨by rfl, ?hyt10⟩) (by assumption) ?restt10
                              case hyt10 => (intro w hSw; (try dsimp only at hSw); go_simp; (try with_reducible rfl))
                              case restt10 =>
                                (try simp only [Act.put, List.setIfInBounds_toArray, List.set_cons_zero, List.set_cons_succ, List.getElem_toArray, List.getElem_cons_zero, List.getElem_cons_succ])
                                refine wpAnyH_take (i := 10) (v := ?vvt11) rfl (by kernel_rfl) (by kernel_rfl) (by kernel_rfl) (fun _ _ _ h => h) (Or.inl ⟨by rfl, ?hyt11⟩) (by assumption) ?restt11
                                case hyt11 => (intro w hSw; (try dsimp only at hSw); go_simp; (try with_reducible rfl))
                                case restt11 =>
                                  (try simp only [Act.put, List.setIfInBounds_toArray, List.set_cons_zero, List.set_cons_succ, List.getElem_toArray, List.getElem_cons_zero, List.getElem_cons_succ])
                                  refine wpAnyH_take (i := 11) (v := ?vvt12) rfl (by kernel_rfl) (by kernel_rfl) (by kernel_rfl) (fun _ _ _ h => h) (Or.inl ⟨by rfl, ?hyt12⟩) (by assumption) ?restt12
                                  case hyt12 => (intro w hSw; (try dsimp only at hSw); go_simp; (try with_reducible rfl))
                                  case restt12 =>
                                    (try simp only [Act.put, List.setIfInBounds_toArray, List.set_cons_zero, List.set_cons_succ, List.getElem_toArray, List.getElem_cons_zero, List.getElem_cons_succ])
                                    refine wpAnyH_take (i := 12) (v := ?vvt13) rfl (by kernel_rfl) (by kernel_rfl) (by kernel_rfl) (fun _ _ _ h => h) (Or.inl ⟨by rfl, ?hyt13⟩) (by assumption) ?restt13
                                    case hyt13 => (intro w hSw; (try dsimp only at hSw); go_simp; (try with_reducible rfl))
                                    case restt13 =>
                                      (try simp only [Act.put, List.setIfInBounds_toArray, List.set_cons_zero, List.set_cons_succ, List.getElem_toArray, List.getElem_cons_zero, List.getElem_cons_succ])
                                      refine wpAnyH_take (i := 13) (v := ?vvt14) rfl (by kernel_rfl) (by kernel_rfl) (by kernel_rfl) (fun _ _ _ h => h) (Or.inl ⟨by rfl, ?hyt14⟩) (by assumption) ?restt14
                                      case hyt14 => (intro w hSw; (try dsimp only at hSw); go_simp; (try with_reducible rfl))
                                      case restt14 =>
                                        (try simp only [Act.put, List.setIfInBounds_toArray, List.set_cons_zero, List.set_cons_succ, List.getElem_toArray, List.getElem_cons_zero, List.getElem_cons_succ])
                                        refine wpAnyH_take (i := 14) (v := ?vvt15) rfl (by kernel_rfl) (by kernel_rfl) (by kernel_rfl) (fun _ _ _ h => h) (Or.inl ⟨by rfl, ?hyt15⟩) (by assumption) ?restt15
                                        case hyt15 => (intro w hSw; (try dsimp only at hSw); go_simp; (try with_reducible rfl))
                                        case restt15 =>
                                          (try simp only [Act.put, List.setIfInBounds_toArray, List.set_cons_zero, List.set_cons_succ, List.getElem_toArray, List.getElem_cons_zero, List.getElem_cons_succ])
                                          refine wpAnyH_take (i := 15) (v := ?vvt16) rfl (by kernel_rfl) (by kernel_rfl) (by kernel_rfl) (fun _ _ _ h => h) (Or.inl ⟨by rfl, ?hyt16⟩) (by assumption) ?restt16
                                          case hyt16 => (intro w hSw; (try dsimp only at hSw); go_simp; (try with_reducible rfl))
                                          case restt16 =>
                                            (try simp only [Act.put, List.setIfInBounds_toArray, List.set_cons_zero, List.set_cons_succ, List.getElem_toArray, List.getElem_cons_zero, List.getElem_cons_succ])
                                            refine wpAnyH_take (i := 16) (v := ?vvt17) rfl (by kernel_rfl) (by kernel_rfl) (by kernel_rfl) (fun _ _ _ h => h) (Or.inl ⟨by rfl, ?hyt17⟩) (by assumption) ?restt17
                                            case hyt17 => (intro w hSw; (try dsimp only at hSw); go_simp; (try with_reducible rfl))
                                            case restt17 =>
                                              (try simp only [Act.put, List.setIfInBounds_toArray, List.set_cons_zero, List.set_cons_succ, List.getElem_toArray, List.getElem_cons_zero, List.getElem_cons_succ])
                                              refine wpAnyH_take (i := 17) (v := ?vvt18) rfl (by kernel_rfl) (by kernel_rfl) (by kernel_rfl) (fun _ _ _ h => h) (Or.inl ⟨by rfl, ?hyt18⟩) (by assumption) ?restt18
                                              case hyt18 => (intro w hSw; (try dsimp only at hSw); go_simp; (try with_reducible rfl))
                                              case restt18 =>
                                                (try simp only [Act.put, List.setIfInBounds_toArray, List.set_cons_zero, List.set_cons_succ, List.getElem_toArray, List.getElem_cons_zero, List.getElem_cons_succ])
                                                refine wpAnyH_take (i := 18) (v := ?vvt19) rfl (by kernel_rfl) (by kernel_rfl) (by kernel_rfl) (fun _ _ _ h => h) (Or.inl ⟨by rfl, ?hyt19⟩) (by assumption) ?restt19
                                                case hyt19 => (intro w hSw; (try dsimp only at hSw); go_simp; (try with_reducible rfl))
                                                case restt19 =>
                                                  (try simp only [Act.put, List.setIfInBounds_toArray, List.set_cons_zero, List.set_cons_succ, List.getElem_toArray, List.getElem_cons_zero, List.getElem_cons_succ])
                                                  refine wpAnyH_ready (rs := [19]) (by kernel_rfl) (by simp) ?_
                                                  refine (AllReadyH.cons rfl (fun K hK => ?_) AllReadyH.nil)
                                                  go_simp
                                                  (go_at_call 24; refine (HMJ.out _ (SD.below (bdrew' (Below.refl _ _))).2.1 (SD.below (bdrew' (Below.refl _ _))).2.2.1).mono ?_)
                                                  rintro e w8 ⟨rfl, b8⟩
                                                  have B8 := hide (bdrew b8)
                                                  clear b8
                                                  refine hK.out _ _ ?_ (fun hHeld => ?_)
                                                  · exact HKE.out _ B8.out
                                                  clear hK K
                                                  (try simp only [Act.put, List.setIfInBounds_toArray, List.set_cons_zero, List.set_cons_succ, List.getElem_toArray, List.getElem_cons_zero, List.getElem_cons_succ])
                                                  refine wpAnyH_take (i := 20) (v := ?vvt20) rfl (by kernel_rfl) (by kernel_rfl) (by kernel_rfl) (fun _ _ _ h => h) (Or.inl ⟨by rfl, ?hyt20⟩) (by assumption) ?restt20
                                                  case hyt20 => (intro w hSw; (try dsimp only at hSw); go_simp; (try with_reducible rfl))
                                                  case restt20 =>
                                                    (try simp only [Act.put, List.setIfInBounds_toArray, List.set_cons_zero, List.set_cons_succ, List.getElem_toArray, List.getElem_cons_zero, List.getElem_cons_succ])
                                                    refine wpAnyH_take (i := 21) (v := ?vvt21) rfl (by kernel_rfl) (by kernel_rfl) (by kernel_rfl) (fun _ _ _ h => h) (Or.inl ⟨by rfl, ?hyt21⟩) (by assumption) ?restt21
                                                    case hyt21 => (intro w hSw; (try dsimp only at hSw); go_simp; (try with_reducible rfl))
                                                    case restt21 =>
                                                      (try simp only [Act.put, List.setIfInBounds_toArray, List.set_cons_zero, List.set_cons_succ, List.getElem_toArray, List.getElem_cons_zero, List.getElem_cons_succ])
                                                      refine wpAnyH_take (i := 22) (v := ?vvt22) rfl (by kernel_rfl) (by kernel_rfl) (by kernel_rfl) (fun _ _ _ h => h) (Or.inl ⟨by rfl, ?hyt22⟩) (by assumption) ?restt22
                                                      case hyt22 => (intro w hSw; (try dsimp only at hSw); go_simp; (try with_reducible rfl))
                                                      case restt22 =>
                                                        (try simp only [Act.put, List.setIfInBounds_toArray, List.set_cons_zero, List.set_cons_succ, List.getElem_toArray, List.getElem_cons_zero, List.getElem_cons_succ])
                                                        refine wpAnyH_take (i := 23) (v := ?vvt23) rfl (by kernel_rfl) (by kernel_rfl) (by kernel_rfl) (fun _ _ _ h => h) (Or.inl ⟨by rfl, ?hyt23⟩) (by assumption) ?restt23
                                                        case hyt23 => (intro w hSw; (try dsimp only at hSw); go_simp; (try with_reducible rfl))
                                                        case restt23 =>
                                                          (try simp only [Act.put, List.setIfInBounds_toArray, List.set_cons_zero, List.set_cons_succ, List.getElem_toArray, List.getElem_cons_zero, List.getElem_cons_succ])
                                                          refine wpAnyH_done (by kernel_rfl) ?_ _
                                                          go_wp2
                                                          go_ret
                                                          exact ⟨rfl, bnext HB.out (SD.below B8.out).2.2.2⟩
          · have e1 : (k : Int) % 2 = 0 := by omega
            have e2 : Int.tmod (k : Int) 2 = 0 := by rw [Int.tmod_eq_emod_of_nonneg (by omega)]; exact e1
            clear ho
            go_upto_region 14 with fail
            refine wp_region_held_drew (S := (fun _ => True)) (by kernel_rfl) ?_ (fun hHeld => ?_)
            · exact trivial
            refine wpAnyH_take (i := 0) (v := ?vvt24) rfl (by kernel_rfl) (by kernel_rfl) (by kernel_rfl) (fun _ _ _ h => h) (Or.inl ⟨by rfl, ?hyt24⟩) (by assumption) ?restt24
            case hyt24 => (intro w hSw; (try dsimp only at hSw); go_simp; (try with_reducible rfl))
            case restt24 =>
              (try simp only [Act.put, List.setIfInBounds_toArray, List.set_cons_zero, List.set_cons_succ, List.getElem_toArray, List.getElem_cons_zero])
              refine wpAnyH_take (i := 1) (v := ?vvt25) rfl (by kernel_rfl) (by kernel_rfl) (by kernel_rfl) (fun _ _ _ h => h) (Or.inl ⟨by rfl, ?hyt25⟩) (by assumption) ?restt25
              case hyt25 => (intro w hSw; (try dsimp only at hSw); go_simp; (try with_reducible rfl))
              case restt25 =>
                (try simp only [Act.put, List.setIfInBounds_toArray, List.set_cons_zero, List.set_cons_succ, List.getElem_toArray, List.getElem_cons_zero, List.getElem_cons_succ])
                refine wpAnyH_take (i := 2) (v := ?vvt26) rfl (by kernel_rfl) (by kernel_rfl) (by kernel_rfl) (fun _ _ _ h => h) (Or.inl ⟨by rfl, ?hyt26⟩) (by assumption) ?restt26
                case hyt26 => (intro w hSw; (try dsimp only at hSw); go_simp; (try with_reducible rfl))
                case restt26 =>
                  (try simp only [Act.put, List.setIfInBounds_toArray, List.set_cons_zero, List.set_cons_succ, List.getElem_toArray, List.getElem_cons_zero, List.getElem_cons_succ])
                  refine wpAnyH_take (i := 3) (v := ?vvt27) rfl (by kernel_rfl) (by kernel_rfl) (by kernel_rfl) (fun _ _ _ h => h) (Or.inl ⟨by rfl, ?hyt27⟩) (by assumption) ?restt27
                  case hyt27 => (intro w hSw; (try dsimp only at hSw); go_simp; (try with_reducible rfl))
                  case restt27 =>
                    (try simp only [Act.put, List.setIfInBounds_toArray, List.set_cons_zero, List.set_cons_succ, List.getElem_toArray, List.getElem_cons_zero, List.getElem_cons_succ])
                    refine wpAnyH_take (i := 4) (v := ?vvt28) rfl (by kernel_rfl) (by kernel_rfl) (by kernel_rfl) (fun _ _ _ h => h) (Or.inl ⟨by rfl, ?hyt28⟩) (by assumption) ?restt28
                    case hyt28 => (intro w hSw; (try dsimp only at hSw); go_simp; (try with_reducible rfl))
                    case restt28 =>
                      (try simp only [Act.put, List.setIfInBounds_toArray, List.set_cons_zero, List.set_cons_succ, List.getElem_toArray, List.getElem_cons_zero, List.getElem_cons_succ])
                      refine wpAnyH_take (i := 5) (v := ?vvt29) rfl (by kernel_rfl) (by kernel_rfl) (by kernel_rfl) (fun _ _ _ h => h) (Or.inl ⟨by rfl, ?hyt29⟩) (by assumption) ?restt29
                      case hyt29 => (intro w hSw; (try dsimp only at hSw); go_simp; (try with_reducible rfl))
                      case restt29 =>
                        (try simp only [Act.put, List.setIfInBounds_toArray, List.set_cons_zero, List.set_cons_succ, List.getElem_toArray, List.getElem_cons_zero, List.getElem_cons_succ])
                        refine wpAnyH_take (i := 6) (v := ?vvt30) rfl (by kernel_rfl) (by kernel_rfl) (by kernel_rfl) (fun _ _ _ h => h) (Or.inl ⟨by rfl, ?hyt30⟩) (by assumption) ?restt30
                        case hyt30 => (intro w hSw; (try dsimp only at hSw); go_simp; (try with_reducible rfl))
                        case restt30 =>
                          (try simp only [Act.put, List.setIfInBounds_toArray, List.set_cons_zero, List.set_cons_succ, List.getElem_toArray, List.getElem_cons_zero, List.getElem_cons_succ])
                          refine wpAnyH_take (i := 7) (v := ?vvt31) rfl (by kernel_rfl) (by kernel_rfl) (by kernel_rfl) (fun _ _ _ h => h) (Or.inl ⟨by rfl, ?hyt31⟩) (by assumption) ?restt31
                          case hyt31 => (intro w hSw; (try dsimp only at hSw); go_simp; (try with_reducible rfl))
                          case restt31 =>
                            (try simp only [Act.put, List.setIfInBounds_toArray, List.set_cons_zero, List.set_cons_succ, List.getElem_toArray, List.getElem_cons_zero, List.getElem_cons_succ])
                            refine wpAnyH_take (i := 8) (v := ?vvt32) rfl (by kernel_rfl) (by kernel_rfl) (by kernel_rfl) (fun _ _ _ h => h) (Or.inl ⟨by rfl, ?hyt32⟩) (by assumption) ?restt32
                            case hyt32 => (intro w hSw; (try dsimp only at hSw); go_simp; (try with_reducible rfl))
                            case restt32 =>
                              (try simp only [Act.put, List.setIfInBounds_toArray, List.set_cons_zero, List.set_cons_succ, List.getElem_toArray, List.getElem_cons_zero, List.getElem_cons_succ])
                              refine wpAnyH_take (i := 9) (v := undef) rfl (by kernel_rfl) (by kernel_rfl) (by kernel_rfl) (fun _ _ _ h => h) (Or.inr ⟨by rfl, rfl⟩) (by assumption) ?_
                              (try simp only [Act.put, List.setIfInBounds_toArray, List.set_cons_zero, List.set_cons_succ, List.getElem_toArray, List.getElem_cons_zero, List.getElem_cons_succ])
                              refine wpAnyH_take (i := 10) (v := undef) rfl (by kernel_rfl) (by kernel_rfl) (by kernel_rfl) (fun _ _ _ h => h) (Or.inr ⟨by rfl, rfl⟩) (by assumption) ?_
                              (try simp only [Act.put, List.setIfInBounds_toArray, List.set_cons_zero, List.set_cons_succ, List.getElem_toArray, List.getElem_cons_zero, List.getElem_cons_succ])
                              refine wpAnyH_take (i := 11) (v := undef) rfl (by kernel_rfl) (by kernel_rfl) (by kernel_rfl) (fun _ _ _ h => h) (Or.inr ⟨by rfl, rfl⟩) (by assumption) ?_
                              (try simp only [Act.put, List.setIfInBounds_toArray, List.set_cons_zero, List.set_cons_succ, List.getElem_toArray, List.getElem_cons_zero, List.getElem_cons_succ])
                              refine wpAnyH_take (i := 12) (v := undef) rfl (by kernel_rfl) (by kernel_rfl) (by kernel_rfl) (fun _ _ _ h => h) (Or.inr ⟨by rfl, rfl⟩) (by assumption) ?_
                              (try simp only [Act.put, List.setIfInBounds_toArray, List.set_cons_zero, List.set_cons_succ, List.getElem_toArray, List.getElem_cons_zero, List.getElem_cons_succ])
                              refine wpAnyH_take (i := 13) (v := undef) rfl (by kernel_rfl) (by kernel_rfl) (by kernel_rfl) (fun _ _ _ h => h) (Or.inr ⟨by rfl, rfl⟩) (by assumption) ?_
                              (try simp only [Act.put, List.setIfInBounds_toArray, List.set_cons_zero, List.set_cons_succ, List.getElem_toArray, List.getElem_cons_zero, List.getElem_cons_succ])
                              refine wpAnyH_take (i := 14) (v := undef) rfl (by kernel_rfl) (by kernel_rfl) (by kernel_rfl) (fun _ _ _ h => h) (Or.inr ⟨by rfl, rfl⟩) (by assumption) ?_
                              (try simp only [Act.put, List.setIfInBounds_toArray, List.set_cons_zero, List.set_cons_succ, List.getElem_toArray, List.getElem_cons_zero, List.getElem_cons_succ])
                              refine wpAnyH_take (i := 15) (v := undef) rfl (by kernel_rfl) (by kernel_rfl) (by kernel_rfl) (fun _ _ _ h => h) (Or.inr ⟨by rfl, rfl⟩) (by assumption) ?_
                              (try simp only [Act.put, List.setIfInBounds_toArray, List.set_cons_zero, List.set_cons_succ, List.getElem_toArray, List.getElem_cons_zero, List.getElem_cons_succ])
                              refine wpAnyH_take (i := 16) (v := undef) rfl (by kernel_rfl) (by kernel_rfl) (by kernel_rfl) (fun _ _ _ h => h) (Or.inr ⟨by rfl, rfl⟩) (by assumption) ?_
                              (try simp only [Act.put, List.setIfInBounds_toArray, List.set_cons_zero, List.set_cons_succ, List.getElem_toArray, List.getElem_cons_zero, List.getElem_cons_succ])
                              refine wpAnyH_take (i := 17) (v := undef) rfl (by kernel_rfl) (by kernel_rfl) (by kernel_rfl) (fun _ _ _ h => h) (Or.inr ⟨by rfl, rfl⟩) (by assumption) ?_
                              (try simp only [Act.put, List.setIfInBounds_toArray, List.set_cons_zero, List.set_cons_succ, List.getElem_toArray, List.getElem_cons_zero, List.getElem_cons_succ])
                              refine wpAnyH_take (i := 18) (v := undef) rfl (by kernel_rfl) (by kernel_rfl) (by kernel_rfl) (fun _ _ _ h => h) (Or.inr ⟨by rfl, rfl⟩) (by assumption) ?_
                              (try simp only [Act.put, List.setIfInBounds_toArray, List.set_cons_zero, List.set_cons_succ, List.getElem_toArray, List.getElem_cons_zero, List.getElem_cons_succ])
                              refine wpAnyH_take (i := 19) (v := undef) rfl (by kernel_rfl) (by kernel_rfl) (by kernel_rfl) (fun _ _ _ h => h) (Or.inr ⟨by rfl, rfl⟩) (by assumption) ?_
                              (try simp only [Act.put, List.setIfInBounds_toArray, List.set_cons_zero, List.set_cons_succ, List.getElem_toArray, List.getElem_cons_zero, List.getElem_cons_succ])
                              refine wpAnyH_take (i := 20) (v := undef) rfl (by kernel_rfl) (by kernel_rfl) (by kernel_rfl) (fun _ _ _ h => h) (Or.inr ⟨by rfl, rfl⟩) (by assumption) ?_
                              (try simp only [Act.put, List.setIfInBounds_toArray, List.set_cons_zero, List.set_cons_succ, List.getElem_toArray, List.getElem_cons_zero, List.getElem_cons_succ])
                              refine wpAnyH_take (i := 21) (v := ?vvt33) rfl (by kernel_rfl) (by kernel_rfl) (by kernel_rfl) (fun _ _ _ h => h) (Or.inl ⟨by rfl, ?hyt33⟩) (by assumption) ?restt33
                              case hyt33 => (intro w hSw; (try dsimp only at hSw); go_simp; (try with_reducible rfl))
                              case restt33 =>
                                (try simp only [Act.put, List.setIfInBounds_toArray, List.set_cons_zero, List.set_cons_succ, List.getElem_toArray, List.getElem_cons_zero, List.getElem_cons_succ])
                                refine wpAnyH_take (i := 22) (v := ?vvt34) rfl (by kernel_rfl) (by kernel_rfl) (by kernel_rfl) (fun _ _ _ h => h) (Or.inl ⟨by rfl, ?hyt34⟩) (by assumption) ?restt34
                                case hyt34 => (intro w hSw; (try dsimp only at hSw); go_simp; (try with_reducible rfl))
                                case restt34 =>
                                  (try simp only [Act.put, List.setIfInBounds_toArray, List.set_cons_zero, List.set_cons_succ, List.getElem_toArray, List.getElem_cons_zero, List.getElem_cons_succ])
                                  refine wpAnyH_take (i := 23) (v := ?vvt35) rfl (by kernel_rfl) (by kernel_rfl) (by kernel_rfl) (fun _ _ _ h => h) (Or.inl ⟨by rfl, ?hyt35⟩) (by assumption) ?restt35
                                  case hyt35 => (intro w hSw; (try dsimp only at hSw); go_simp; (try with_reducible rfl))
                                  case restt35 =>
                                    (try simp only [Act.put, List.setIfInBounds_toArray, List.set_cons_zero, List.set_cons_succ, List.getElem_toArray, List.getElem_cons_zero, List.getElem_cons_succ])
                                    refine wpAnyH_done (by kernel_rfl) ?_ _
                                    go_wp2
                                    go_ret
                                    exact ⟨rfl, bnext HB.out (bdrew' SD.2.2.2)⟩
    · obtain rfl : o = false := HOO.out.trans (decide_eq_false hp)
      clear HOO hoo hoe HF hp
      go_wp2_with fail
      refine (equalInts_yes _ _ _ _ _ _ i24 i34 HLL.out).mono ?_
      rintro e w5 ⟨rfl, b5⟩
      go_wp2
      go_ret
      exact ⟨rfl, bnext HB.out (SC.below b5).2.2.2⟩
end Go.Proofs.Ytccemllgglfgkaa
