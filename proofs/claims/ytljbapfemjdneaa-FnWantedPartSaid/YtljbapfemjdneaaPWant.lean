/- The law of WantedPart answers true at every code: its walk. -/
import Derived.Test.YtljbapfemjdneaaDrawT
import Derived.Test.YtljbapfemjdneaaLawH
import Derived.Test.YtljbapfemjdneaaSet
import Derived.Deep.RegionHeld3
import Derived.WalkArith
namespace Go.Proofs.Ytljbapfemjdneaa
open Go.RowKit Go.Joins

theorem wantC_full {vs : List Int} (h : vs.length % 2 = 1) : ∀ k, wantC vs k + 1 = 2 ^ k
  | 0 => by simp [wantC]
  | k + 1 => by
    have ih := wantC_full h k
    rw [wantC_yes (by omega), Nat.pow_succ]
    omega
/-- What the law of WantedPart needs of valid votes. -/
theorem want_facts {n : Int} {zs vs : List Int} (h : vvB n zs vs = true) :
    vpB n zs (wpC n zs vs) (wpB n zs vs) = true ∧ (Lit.int .i64 (wpB n zs vs)).wf = true ∧ majV n zs vs = wpB n zs vs ∧ (vs.length % 2 = 1 → wpC n zs vs = pw n - 1) ∧ (1 ≤ n ∧ n ≤ 4) := by
  obtain ⟨hV, hO⟩ := vv_of h
  have h14 := hV.1
  have h16 := want_16 vs n.toNat (by omega)
  have hp := want_part n.toNat vs (by omega)
  rw [Int.toNat_of_nonneg (by omega)] at hp
  refine ⟨?_, ?_, ?_, fun ho => ?_, h14⟩
  · rw [vpB_true (vsB_true hV), wpC_yes h, wpB_yes h]
    exact ptB_true hp
  · rw [wpB_yes h]
    exact WalkArith.wf_i64 ⟨by omega, by omega⟩
  · rw [wpB_yes h, majV_yes h]
  · rw [wpC_yes h]
    have := wantC_full ho n.toNat
    unfold pw
    omega
theorem implMajorityOf_is (n : Int) (a l : Option Addr) (cap capl : Nat) (zs vs : List Int) (w : World) (r : Int) (hi : Ints w a zs) (hj : Ints w l vs) (hn : zs.length ≤ 1048576) (hm : vs.length ≤ 1048576) (hr : majV n zs vs = r) :
    Calls Try.prog 50 #[.agg #[.int .i64 n, .slice a zs.length cap], .slice l vs.length capl] w fun e w' => e = .returned (.int .i64 r) ∧ Below w.heap.size w w' := by
  subst hr
  exact implMajorityOf_any n a l cap capl zs vs w hi hj hn hm

set_option maxHeartbeats 4000000 in
set_option maxRecDepth 100000 in
theorem walk_FnWantedPart (a : Option Addr) (zs : List Nat) (cap : Nat) (w : World) (hi : Byts w a zs) (hl : zs.length ≤ maxLen) (hc : zs.length ≤ cap) :
    Calls Try.prog 13 #[.slice a zs.length cap] w fun e w' => e = .returned (.bool true) ∧ Below w.heap.size w w' := by
  by_cases h : 1048576 < zs.length
  · unfold maxLen at hl
    go_enter Try.func13, Try.ntmps13
    go_wp2
    go_ret
    exact ⟨rfl, Below.refl _ _⟩
  · have hl' : zs.length ≤ 1048576 := by omega
    clear h hl
    go_enter Try.func13, Try.ntmps13
    go_wp2_with fail
    refine (drawWantedPart_any _ _ _ _ hi hl' hc).mono ?_
    rintro e w1 ⟨m, av, ss, cv, al, ls, cl, rfl, ii, hsl, il, hll, hb⟩
    have S0 := SV.new w1 m av ss cv al ls 25 ii il
    have HB := hide hb
    have hn : ss.length ≤ 1048576 := by omega
    have hm : ls.length ≤ 1048576 := by omega
    clear hb hi ii il hl' hsl
    obtain ⟨⟨_, c0, c1⟩, _⟩ := S0.pair
    go_wp2_with fail
    refine (implWanted_any _ _ _ _ _ _ _ _ S0.2.1 S0.2.2.1 hn hm).mono ?_
    rintro e w2 ⟨rfl, b2⟩
    have S3 := (S0.below b2).below (bel1 w2 (.cells #[.int .i64 (wpC m ss ls), .int .i64 (wpB m ss ls)] 35))
    have P3 := PBox.new w2 (wpC m ss ls) (wpB m ss ls) 35
    have hlt12 := hide (S0.below b2).1.1
    clear c0 c1 S0 b2
    go_upto_region 5 with fail
    generalize w2.alloc (.cells #[.int .i64 (wpC m ss ls), .int .i64 (wpB m ss ls)] 35) = w3 at S3 P3 ⊢
    have HS := hide S3
    have HP := hide P3
    obtain ⟨⟨_, c0, c1⟩, _⟩ := S3.pair
    have ⟨_, p0, p1⟩ := P3
    clear S3 P3
    by_cases hv : vvB m ss ls = true
    · go_region_held3 (fun w' => w'.cell? ⟨w1.heap.size, 0, none⟩ = some (.int .i64 m) ∧ w'.cell? ⟨w1.heap.size, 1, none⟩ = some (.slice av ss.length cv) ∧ w'.cell? ⟨w2.heap.size, 0, none⟩ = some (.int .i64 (wpC m ss ls)) ∧ w'.cell? ⟨w2.heap.size, 1, none⟩ = some (.int .i64 (wpB m ss ls)))
        (first | go_keep | exact HK2.out | exact HK1.out)
        (first
          | (go_at_call 59; refine (specWantedPart_any _ _ _ _ _ _ _ _ HS.out.drew.2.1 HS.out.drew.2.2.1 hn hm).mono ?_; rintro e w5 ⟨rfl, b5⟩; have S5 := hide (HS.out.drew.below b5); have P5 := hide ((HP.out.below (bdrew' (Below.refl _ _))).below b5); have HK1 := hide (show w5.cell? ⟨w1.heap.size, 0, none⟩ = some (.int .i64 m) ∧ w5.cell? ⟨w1.heap.size, 1, none⟩ = some (.slice av ss.length cv) ∧ w5.cell? ⟨w2.heap.size, 0, none⟩ = some (.int .i64 (wpC m ss ls)) ∧ w5.cell? ⟨w2.heap.size, 1, none⟩ = some (.int .i64 (wpB m ss ls)) from ⟨S5.out.1.2.1, S5.out.1.2.2, P5.out.2.1, P5.out.2.2⟩); clear b5)
          | (go_at_call 46; refine (implVotes_is _ _ _ _ _ _ _ _ true S5.out.2.1 S5.out.2.2.1 hn hm hv).mono ?_; rintro e w6 ⟨rfl, b6⟩; have S6 := hide (S5.out.below b6); have P6 := hide (P5.out.below b6); have HK2 := hide (show w6.cell? ⟨w1.heap.size, 0, none⟩ = some (.int .i64 m) ∧ w6.cell? ⟨w1.heap.size, 1, none⟩ = some (.slice av ss.length cv) ∧ w6.cell? ⟨w2.heap.size, 0, none⟩ = some (.int .i64 (wpC m ss ls)) ∧ w6.cell? ⟨w2.heap.size, 1, none⟩ = some (.int .i64 (wpB m ss ls)) from ⟨S6.out.1.2.1, S6.out.1.2.2, P6.out.2.1, P6.out.2.2⟩); clear b6))
      obtain ⟨hvp, hwf, hmaj, hfull, h14⟩ := want_facts hv
      have HM := hide hmaj
      have hbb : (wpB m ss ls == wpB m ss ls) = true := by simp
      have p1' := pw_pos m
      have p2' := pw_le m h14.2
      clear c0 c1 p0 p1 hmaj HK1 HK2
      obtain ⟨⟨_, c0, c1⟩, _⟩ := S6.out.pair
      have ⟨_, p0, p1⟩ := P6.out
      by_cases ho : ls.length % 2 = 1
      · have hC := hide (hfull ho)
        have e1 : (ls.length : Int) % 2 = 1 := by omega
        have e2 : Int.tmod (ls.length : Int) 2 = 1 := by rw [Int.tmod_eq_emod_of_nonneg (by omega)]; exact e1
        have e3 : IntKind.i64.wrap (pw m - 1) = pw m - 1 := IntWalk.i64_in _ (by omega)
        have e4 : (wpC m ss ls == pw m - 1) = true := by rw [hC.out]; simp
        clear hfull ho
        go_upto_region 7 with fail
        have i6 := S6.out.drew.2.1
        have hmaj := HM.out
        go_region_held3 (fun w' => w'.cell? ⟨w1.heap.size, 0, none⟩ = some (.int .i64 m) ∧ w'.cell? ⟨w1.heap.size, 1, none⟩ = some (.slice av ss.length cv) ∧ w'.cell? ⟨w2.heap.size, 0, none⟩ = some (.int .i64 (wpC m ss ls)) ∧ w'.cell? ⟨w2.heap.size, 1, none⟩ = some (.int .i64 (wpB m ss ls)))
          (first | go_keep | exact HK2.out | exact HK1.out)
          (first
            | (go_at_call 23; (with_reducible refine (implValidPart_is _ _ _ _ _ _ _ true i6 hn hwf hvp).mono ?_); rintro e w7 ⟨rfl, b7⟩; have S7 := hide (S6.out.drew.below b7); have i7 := S7.out.2.1; have j7 := S7.out.2.2.1; have P7 := hide ((P6.out.below (bdrew' (Below.refl _ _))).below b7); have HK1 := hide (show w7.cell? ⟨w1.heap.size, 0, none⟩ = some (.int .i64 m) ∧ w7.cell? ⟨w1.heap.size, 1, none⟩ = some (.slice av ss.length cv) ∧ w7.cell? ⟨w2.heap.size, 0, none⟩ = some (.int .i64 (wpC m ss ls)) ∧ w7.cell? ⟨w2.heap.size, 1, none⟩ = some (.int .i64 (wpB m ss ls)) from ⟨S7.out.1.2.1, S7.out.1.2.2, P7.out.2.1, P7.out.2.2⟩); clear b7)
            | (go_at_call 50; (with_reducible refine (implMajorityOf_is _ _ _ _ _ _ _ _ (wpB m ss ls) i7 j7 hn hm hmaj).mono ?_); rintro e w8 ⟨rfl, b8⟩; have S8 := hide (S7.out.below b8); have P8 := hide (P7.out.below b8); have HK2 := hide (show w8.cell? ⟨w1.heap.size, 0, none⟩ = some (.int .i64 m) ∧ w8.cell? ⟨w1.heap.size, 1, none⟩ = some (.slice av ss.length cv) ∧ w8.cell? ⟨w2.heap.size, 0, none⟩ = some (.int .i64 (wpC m ss ls)) ∧ w8.cell? ⟨w2.heap.size, 1, none⟩ = some (.int .i64 (wpB m ss ls)) from ⟨S8.out.1.2.1, S8.out.1.2.2, P8.out.2.1, P8.out.2.2⟩); clear b8)
            | (go_at_call 19; refine (lawPower_any _ _ (by omega) (by omega)).mono ?_; rintro e w' ⟨rfl, rfl⟩))
        go_wp2
        go_ret
        exact ⟨rfl, bnext HB.out S8.out.2.2.2⟩
      · have e1 : (ls.length : Int) % 2 = 0 := by omega
        have e2 : Int.tmod (ls.length : Int) 2 = 0 := by rw [Int.tmod_eq_emod_of_nonneg (by omega)]; exact e1
        clear hfull ho
        go_upto_region 7 with fail
        have i6 := S6.out.drew.2.1
        have hmaj := HM.out
        have cd := S6.out.drew.1
        obtain ⟨_, d0, d1⟩ := S6.out.drew.1
        have ⟨_, q0, q1⟩ := P6.out.below (bdrew' (Below.refl _ _))
        refine wp_region_held_drew (S := (fun w' => w'.cell? ⟨w1.heap.size, 0, none⟩ = some (.int .i64 m) ∧ w'.cell? ⟨w1.heap.size, 1, none⟩ = some (.slice av ss.length cv) ∧ w'.cell? ⟨w2.heap.size, 0, none⟩ = some (.int .i64 (wpC m ss ls)) ∧ w'.cell? ⟨w2.heap.size, 1, none⟩ = some (.int .i64 (wpB m ss ls)))) (by kernel_rfl) ?_ (fun hHeld => ?_)
        · exact ⟨d0, d1, q0, q1⟩
        refine wpAnyH_take (i := 0) (v := ?vv0) rfl (by kernel_rfl) (by kernel_rfl) (by kernel_rfl) (fun _ _ _ h => h) (Or.inl ⟨by rfl, ?hy0⟩) (by assumption) ?rest0
        case hy0 => (intro w hSw; (try dsimp only at hSw); go_simp; (try with_reducible rfl))
        case rest0 =>
          (try simp only [Act.put, List.setIfInBounds_toArray, List.set_cons_zero, List.set_cons_succ, List.getElem_toArray, List.getElem_cons_zero])
          refine wpAnyH_take (i := 1) (v := ?vv1) rfl (by kernel_rfl) (by kernel_rfl) (by kernel_rfl) (fun _ _ _ h => h) (Or.inl ⟨by rfl, ?hy1⟩) (by assumption) ?rest1
          case hy1 => (intro w hSw; (try dsimp only at hSw); go_simp; (try with_reducible rfl))
          case rest1 =>
            (try simp only [Act.put, List.setIfInBounds_toArray, List.set_cons_zero, List.set_cons_succ, List.getElem_toArray, List.getElem_cons_zero, List.getElem_cons_succ])
            refine wpAnyH_ready (rs := [2]) (by kernel_rfl) (by simp) ?_
            refine AllReadyH.cons rfl (fun K hK => ?_) AllReadyH.nil
            go_simp
            (go_at_call 23; (with_reducible refine (implValidPart_is _ _ _ _ _ _ _ true i6 hn hwf hvp).mono ?_); rintro e w7 ⟨rfl, b7⟩; have S7 := hide (S6.out.drew.below b7); have i7 := S7.out.2.1; have j7 := S7.out.2.2.1; have P7 := hide ((P6.out.below (bdrew' (Below.refl _ _))).below b7); clear b7)
            go_wp2_with fail
            refine hK.out _ _ ?_ (fun hHeld => ?_)
            · exact ⟨S7.out.1.2.1, S7.out.1.2.2, P7.out.2.1, P7.out.2.2⟩
            clear hK K
            (try simp only [Act.put, List.setIfInBounds_toArray, List.set_cons_zero, List.set_cons_succ, List.getElem_toArray, List.getElem_cons_zero, List.getElem_cons_succ])
            refine wpAnyH_take (i := 3) (v := ?vv3) rfl (by kernel_rfl) (by kernel_rfl) (by kernel_rfl) (fun _ _ _ h => h) (Or.inl ⟨by rfl, ?hy3⟩) (by assumption) ?rest3
            case hy3 => (intro w hSw; (try dsimp only at hSw); go_simp; (try with_reducible rfl))
            case rest3 =>
              (try simp only [Act.put, List.setIfInBounds_toArray, List.set_cons_zero, List.set_cons_succ, List.getElem_toArray, List.getElem_cons_zero, List.getElem_cons_succ])
              refine wpAnyH_take (i := 4) (v := ?vv4) rfl (by kernel_rfl) (by kernel_rfl) (by kernel_rfl) (fun _ _ _ h => h) (Or.inl ⟨by rfl, ?hy4⟩) (by assumption) ?rest4
              case hy4 => (intro w hSw; (try dsimp only at hSw); go_simp; (try with_reducible rfl))
              case rest4 =>
                (try simp only [Act.put, List.setIfInBounds_toArray, List.set_cons_zero, List.set_cons_succ, List.getElem_toArray, List.getElem_cons_zero, List.getElem_cons_succ])
                refine wpAnyH_take (i := 5) (v := ?vv5) rfl (by kernel_rfl) (by kernel_rfl) (by kernel_rfl) (fun _ _ _ h => h) (Or.inl ⟨by rfl, ?hy5⟩) (by assumption) ?rest5
                case hy5 => (intro w hSw; (try dsimp only at hSw); go_simp; (try with_reducible rfl))
                case rest5 =>
                  (try simp only [Act.put, List.setIfInBounds_toArray, List.set_cons_zero, List.set_cons_succ, List.getElem_toArray, List.getElem_cons_zero, List.getElem_cons_succ])
                  refine wpAnyH_take (i := 6) (v := ?vv6) rfl (by kernel_rfl) (by kernel_rfl) (by kernel_rfl) (fun _ _ _ h => h) (Or.inl ⟨by rfl, ?hy6⟩) (by assumption) ?rest6
                  case hy6 => (intro w hSw; (try dsimp only at hSw); go_simp; (try with_reducible rfl))
                  case rest6 =>
                    (try simp only [Act.put, List.setIfInBounds_toArray, List.set_cons_zero, List.set_cons_succ, List.getElem_toArray, List.getElem_cons_zero, List.getElem_cons_succ])
                    refine wpAnyH_take (i := 7) (v := ?vv7) rfl (by kernel_rfl) (by kernel_rfl) (by kernel_rfl) (fun _ _ _ h => h) (Or.inl ⟨by rfl, ?hy7⟩) (by assumption) ?rest7
                    case hy7 => (intro w hSw; (try dsimp only at hSw); go_simp; (try with_reducible rfl))
                    case rest7 =>
                      (try simp only [Act.put, List.setIfInBounds_toArray, List.set_cons_zero, List.set_cons_succ, List.getElem_toArray, List.getElem_cons_zero, List.getElem_cons_succ])
                      refine wpAnyH_ready (rs := [8]) (by kernel_rfl) (by simp) ?_
                      refine AllReadyH.cons rfl (fun K hK => ?_) AllReadyH.nil
                      go_simp
                      (go_at_call 50; (with_reducible refine (implMajorityOf_is _ _ _ _ _ _ _ _ (wpB m ss ls) i7 j7 hn hm hmaj).mono ?_); rintro e w8 ⟨rfl, b8⟩; have S8 := hide (S7.out.below b8); have P8 := hide (P7.out.below b8); clear b8)
                      go_wp2_with fail
                      refine hK.out _ _ ?_ (fun hHeld => ?_)
                      · exact ⟨S8.out.1.2.1, S8.out.1.2.2, P8.out.2.1, P8.out.2.2⟩
                      clear hK K
                      (try simp only [Act.put, List.setIfInBounds_toArray, List.set_cons_zero, List.set_cons_succ, List.getElem_toArray, List.getElem_cons_zero, List.getElem_cons_succ])
                      refine wpAnyH_take (i := 9) (v := ?vv9) rfl (by kernel_rfl) (by kernel_rfl) (by kernel_rfl) (fun _ _ _ h => h) (Or.inl ⟨by rfl, ?hy9⟩) (by assumption) ?rest9
                      case hy9 => (intro w hSw; (try dsimp only at hSw); go_simp; (try with_reducible rfl))
                      case rest9 =>
                        (try simp only [Act.put, List.setIfInBounds_toArray, List.set_cons_zero, List.set_cons_succ, List.getElem_toArray, List.getElem_cons_zero, List.getElem_cons_succ])
                        refine wpAnyH_take (i := 10) (v := ?vv10) rfl (by kernel_rfl) (by kernel_rfl) (by kernel_rfl) (fun _ _ _ h => h) (Or.inl ⟨by rfl, ?hy10⟩) (by assumption) ?rest10
                        case hy10 => (intro w hSw; (try dsimp only at hSw); go_simp; (try with_reducible rfl))
                        case rest10 =>
                          (try simp only [Act.put, List.setIfInBounds_toArray, List.set_cons_zero, List.set_cons_succ, List.getElem_toArray, List.getElem_cons_zero, List.getElem_cons_succ])
                          refine wpAnyH_take (i := 11) (v := ?vv11) rfl (by kernel_rfl) (by kernel_rfl) (by kernel_rfl) (fun _ _ _ h => h) (Or.inl ⟨by rfl, ?hy11⟩) (by assumption) ?rest11
                          case hy11 => (intro w hSw; (try dsimp only at hSw); go_simp; (try with_reducible rfl))
                          case rest11 =>
                            (try simp only [Act.put, List.setIfInBounds_toArray, List.set_cons_zero, List.set_cons_succ, List.getElem_toArray, List.getElem_cons_zero, List.getElem_cons_succ])
                            refine wpAnyH_take (i := 12) (v := ?vv12) rfl (by kernel_rfl) (by kernel_rfl) (by kernel_rfl) (fun _ _ _ h => h) (Or.inl ⟨by rfl, ?hy12⟩) (by assumption) ?rest12
                            case hy12 => (intro w hSw; (try dsimp only at hSw); go_simp; (try with_reducible rfl))
                            case rest12 =>
                              (try simp only [Act.put, List.setIfInBounds_toArray, List.set_cons_zero, List.set_cons_succ, List.getElem_toArray, List.getElem_cons_zero, List.getElem_cons_succ])
                              refine wpAnyH_take (i := 13) (v := ?vv13) rfl (by kernel_rfl) (by kernel_rfl) (by kernel_rfl) (fun _ _ _ h => h) (Or.inl ⟨by rfl, ?hy13⟩) (by assumption) ?rest13
                              case hy13 => (intro w hSw; (try dsimp only at hSw); go_simp; (try with_reducible rfl))
                              case rest13 =>
                                (try simp only [Act.put, List.setIfInBounds_toArray, List.set_cons_zero, List.set_cons_succ, List.getElem_toArray, List.getElem_cons_zero, List.getElem_cons_succ])
                                refine wpAnyH_take (i := 14) (v := ?vv14) rfl (by kernel_rfl) (by kernel_rfl) (by kernel_rfl) (fun _ _ _ h => h) (Or.inl ⟨by rfl, ?hy14⟩) (by assumption) ?rest14
                                case hy14 => (intro w hSw; (try dsimp only at hSw); go_simp; (try with_reducible rfl))
                                case rest14 =>
                                  (try simp only [Act.put, List.setIfInBounds_toArray, List.set_cons_zero, List.set_cons_succ, List.getElem_toArray, List.getElem_cons_zero, List.getElem_cons_succ])
                                  refine wpAnyH_take (i := 15) (v := ?vv15) rfl (by kernel_rfl) (by kernel_rfl) (by kernel_rfl) (fun _ _ _ h => h) (Or.inl ⟨by rfl, ?hy15⟩) (by assumption) ?rest15
                                  case hy15 => (intro w hSw; (try dsimp only at hSw); go_simp; (try with_reducible rfl))
                                  case rest15 =>
                                    (try simp only [Act.put, List.setIfInBounds_toArray, List.set_cons_zero, List.set_cons_succ, List.getElem_toArray, List.getElem_cons_zero, List.getElem_cons_succ])
                                    refine wpAnyH_take (i := 16) (v := ?vv16) rfl (by kernel_rfl) (by kernel_rfl) (by kernel_rfl) (fun _ _ _ h => h) (Or.inl ⟨by rfl, ?hy16⟩) (by assumption) ?rest16
                                    case hy16 => (intro w hSw; (try dsimp only at hSw); go_simp; (try with_reducible rfl))
                                    case rest16 =>
                                      (try simp only [Act.put, List.setIfInBounds_toArray, List.set_cons_zero, List.set_cons_succ, List.getElem_toArray, List.getElem_cons_zero, List.getElem_cons_succ])
                                      refine wpAnyH_take (i := 17) (v := undef) rfl (by kernel_rfl) (by kernel_rfl) (by kernel_rfl) (fun _ _ _ h => h) (Or.inr ⟨by rfl, rfl⟩) (by assumption) ?_
                                      (try simp only [Act.put, List.setIfInBounds_toArray, List.set_cons_zero, List.set_cons_succ, List.getElem_toArray, List.getElem_cons_zero, List.getElem_cons_succ])
                                      refine wpAnyH_take (i := 18) (v := undef) rfl (by kernel_rfl) (by kernel_rfl) (by kernel_rfl) (fun _ _ _ h => h) (Or.inr ⟨by rfl, rfl⟩) (by assumption) ?_
                                      (try simp only [Act.put, List.setIfInBounds_toArray, List.set_cons_zero, List.set_cons_succ, List.getElem_toArray, List.getElem_cons_zero, List.getElem_cons_succ])
                                      refine wpAnyH_take (i := 19) (v := undef) rfl (by kernel_rfl) (by kernel_rfl) (by kernel_rfl) (fun _ _ _ h => h) (Or.inr ⟨by rfl, rfl⟩) (by assumption) ?_
                                      (try simp only [Act.put, List.setIfInBounds_toArray, List.set_cons_zero, List.set_cons_succ, List.getElem_toArray, List.getElem_cons_zero, List.getElem_cons_succ])
                                      refine wpAnyH_take (i := 20) (v := undef) rfl (by kernel_rfl) (by kernel_rfl) (by kernel_rfl) (fun _ _ _ h => h) (Or.inr ⟨by rfl, rfl⟩) (by assumption) ?_
                                      (try simp only [Act.put, List.setIfInBounds_toArray, List.set_cons_zero, List.set_cons_succ, List.getElem_toArray, List.getElem_cons_zero, List.getElem_cons_succ])
                                      refine wpAnyH_take (i := 21) (v := undef) rfl (by kernel_rfl) (by kernel_rfl) (by kernel_rfl) (fun _ _ _ h => h) (Or.inr ⟨by rfl, rfl⟩) (by assumption) ?_
                                      (try simp only [Act.put, List.setIfInBounds_toArray, List.set_cons_zero, List.set_cons_succ, List.getElem_toArray, List.getElem_cons_zero, List.getElem_cons_succ])
                                      refine wpAnyH_take (i := 22) (v := undef) rfl (by kernel_rfl) (by kernel_rfl) (by kernel_rfl) (fun _ _ _ h => h) (Or.inr ⟨by rfl, rfl⟩) (by assumption) ?_
                                      (try simp only [Act.put, List.setIfInBounds_toArray, List.set_cons_zero, List.set_cons_succ, List.getElem_toArray, List.getElem_cons_zero, List.getElem_cons_succ])
                                      refine wpAnyH_take (i := 23) (v := undef) rfl (by kernel_rfl) (by kernel_rfl) (by kernel_rfl) (fun _ _ _ h => h) (Or.inr ⟨by rfl, rfl⟩) (by assumption) ?_
                                      (try simp only [Act.put, List.setIfInBounds_toArray, List.set_cons_zero, List.set_cons_succ, List.getElem_toArray, List.getElem_cons_zero, List.getElem_cons_succ])
                                      refine wpAnyH_take (i := 24) (v := ?vv24) rfl (by kernel_rfl) (by kernel_rfl) (by kernel_rfl) (fun _ _ _ h => h) (Or.inl ⟨by rfl, ?hy24⟩) (by assumption) ?rest24
                                      case hy24 => (intro w hSw; (try dsimp only at hSw); go_simp; (try with_reducible rfl))
                                      case rest24 =>
                                        (try simp only [Act.put, List.setIfInBounds_toArray, List.set_cons_zero, List.set_cons_succ, List.getElem_toArray, List.getElem_cons_zero, List.getElem_cons_succ])
                                        refine wpAnyH_take (i := 25) (v := ?vv25) rfl (by kernel_rfl) (by kernel_rfl) (by kernel_rfl) (fun _ _ _ h => h) (Or.inl ⟨by rfl, ?hy25⟩) (by assumption) ?rest25
                                        case hy25 => (intro w hSw; (try dsimp only at hSw); go_simp; (try with_reducible rfl))
                                        case rest25 =>
                                          (try simp only [Act.put, List.setIfInBounds_toArray, List.set_cons_zero, List.set_cons_succ, List.getElem_toArray, List.getElem_cons_zero, List.getElem_cons_succ])
                                          refine wpAnyH_take (i := 26) (v := ?vv26) rfl (by kernel_rfl) (by kernel_rfl) (by kernel_rfl) (fun _ _ _ h => h) (Or.inl ⟨by rfl, ?hy26⟩) (by assumption) ?rest26
                                          case hy26 => (intro w hSw; (try dsimp only at hSw); go_simp; (try with_reducible rfl))
                                          case rest26 =>
                                            (try simp only [Act.put, List.setIfInBounds_toArray, List.set_cons_zero, List.set_cons_succ, List.getElem_toArray, List.getElem_cons_zero, List.getElem_cons_succ])
                                            refine wpAnyH_done (by kernel_rfl) ?_ _
                                            go_wp2
                                            go_ret
                                            exact ⟨rfl, bnext HB.out S8.out.2.2.2⟩
    · have hv : vvB m ss ls = false := by simpa using hv
      go_region_held3 (fun w' => w'.cell? ⟨w1.heap.size, 0, none⟩ = some (.int .i64 m) ∧ w'.cell? ⟨w1.heap.size, 1, none⟩ = some (.slice av ss.length cv) ∧ w'.cell? ⟨w2.heap.size, 0, none⟩ = some (.int .i64 (wpC m ss ls)) ∧ w'.cell? ⟨w2.heap.size, 1, none⟩ = some (.int .i64 (wpB m ss ls)))
        (first | go_keep | exact HK2.out | exact HK1.out)
        (first
          | (go_at_call 59; refine (specWantedPart_any _ _ _ _ _ _ _ _ HS.out.drew.2.1 HS.out.drew.2.2.1 hn hm).mono ?_; rintro e w5 ⟨rfl, b5⟩; have S5 := hide (HS.out.drew.below b5); have P5 := hide ((HP.out.below (bdrew' (Below.refl _ _))).below b5); have HK1 := hide (show w5.cell? ⟨w1.heap.size, 0, none⟩ = some (.int .i64 m) ∧ w5.cell? ⟨w1.heap.size, 1, none⟩ = some (.slice av ss.length cv) ∧ w5.cell? ⟨w2.heap.size, 0, none⟩ = some (.int .i64 (wpC m ss ls)) ∧ w5.cell? ⟨w2.heap.size, 1, none⟩ = some (.int .i64 (wpB m ss ls)) from ⟨S5.out.1.2.1, S5.out.1.2.2, P5.out.2.1, P5.out.2.2⟩); clear b5)
          | (go_at_call 46; refine (implVotes_is _ _ _ _ _ _ _ _ false S5.out.2.1 S5.out.2.2.1 hn hm hv).mono ?_; rintro e w6 ⟨rfl, b6⟩; have S6 := hide (S5.out.below b6); have P6 := hide (P5.out.below b6); have HK2 := hide (show w6.cell? ⟨w1.heap.size, 0, none⟩ = some (.int .i64 m) ∧ w6.cell? ⟨w1.heap.size, 1, none⟩ = some (.slice av ss.length cv) ∧ w6.cell? ⟨w2.heap.size, 0, none⟩ = some (.int .i64 (wpC m ss ls)) ∧ w6.cell? ⟨w2.heap.size, 1, none⟩ = some (.int .i64 (wpB m ss ls)) from ⟨S6.out.1.2.1, S6.out.1.2.2, P6.out.2.1, P6.out.2.2⟩); clear b6))
      clear c0 c1 p0 p1 HK1 HK2 hv
      obtain ⟨⟨_, c0, c1⟩, _⟩ := S6.out.pair
      have ⟨_, p0, p1⟩ := P6.out
      go_upto_region 6 with fail
      obtain ⟨_, d0, d1⟩ := S6.out.drew.1
      have ⟨_, q0, q1⟩ := P6.out.below (bdrew' (Below.refl _ _))
      go_region_with (go_at_call 59; refine (specWantedPart_any _ _ _ _ _ _ _ _ S6.out.drew.2.1 S6.out.drew.2.2.1 hn hm).mono ?_; rintro e w7 ⟨rfl, b7⟩; have S7 := hide (S6.out.drew.below b7); have i7 := S7.out.2.1; have j7 := S7.out.2.2.1; have P7 := hide ((P6.out.below (bdrew' (Below.refl _ _))).below b7); have ⟨_, r0, r1⟩ := S7.out.1; have ⟨_, s0, s1⟩ := P7.out; clear b7)
      all_goals
        go_wp2
        go_ret
        exact ⟨rfl, bnext HB.out S7.out.2.2.2⟩
end Go.Proofs.Ytljbapfemjdneaa
