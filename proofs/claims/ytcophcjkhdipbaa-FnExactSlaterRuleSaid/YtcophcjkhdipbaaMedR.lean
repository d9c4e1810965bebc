/- MedianRule of the model. -/
import Derived.Test.YtcophcjkhdipbaaNearF
import Derived.Test.YtcophcjkhdipbaaPoll
import Derived.Test.YtcophcjkhdipbaaBestD
import Derived.Outline
namespace Go.Proofs.Ytcophcjkhdipbaa
open Go.RowKit Go.Joins

theorem total_any (l : Option Addr) (capl : Nat) (vs : List Int) (x : Int) (w : World) (hi : Ints w l vs) (h5 : vs.length ≤ 5) (hr : ∀ v ∈ vs, 0 ≤ v ∧ v ≤ 15) (hx : 0 ≤ x ∧ x ≤ 15) :
    Calls Try.prog 44 #[.slice l vs.length capl, .int .i64 x] w fun e w' => e = .returned (.int .i64 (totN vs x : Nat)) ∧ w = w' := by
  have HR := hide hr
  have HX := hide hx
  clear hr hx
  go_enter Try.func44, Try.ntmps44
  go_wp2_with fail
  go_loop [5, 6] (fun s i => ∃ k : Nat, k ≤ vs.length ∧ i = .int .i64 k ∧ s = .int .i64 (totK vs x k : Nat)) (fun _ i => vs.length - (intOf i).toNat)
  case atStart => exact ⟨0, Nat.zero_le _, rfl, rfl⟩
  case round =>
    obtain ⟨k, hk, rfl, rfl⟩ := hrel
    have b1 := totK_le vs x k
    by_cases hlt : k < vs.length
    · obtain ⟨b, off, rfl, hbl, hc⟩ := hi (by omega)
      have hck := hc k hlt
      rw [getD_lt hlt] at hck
      have g1 := gp_le x vs[k]
      have H1 := hide (show totK vs x (k + 1) = totK vs x k + gp x vs[k] from by rw [totK, getD_lt hlt])
      clear hc hi
      go_wp2_with (go_at_call 47; refine (gp_spec _ HX.out (HR.out _ (mem_of_at hlt))).mono ?_; rintro e w' ⟨rfl, rfl⟩)
      go_round
      case rel => exact ⟨k + 1, by omega, by go_num, by rw [H1.out]; go_num⟩
      case measure => simp only [intOf]; omega
    · obtain rfl : k = vs.length := by omega
      go_wp2
      go_ret
      exact ⟨rfl, rfl⟩

set_option maxHeartbeats 2000000 in
theorem specMedianRule_any (n : Int) (a l : Option Addr) (cap capl : Nat) (zs vs : List Int) (w : World) (hi : Ints w a zs) (hj : Ints w l vs) (hn : zs.length ≤ 1048576) (hm : vs.length ≤ 1048576) :
    Calls Try.prog 12 #[.agg #[.int .i64 n, .slice a zs.length cap], .slice l vs.length capl] w (Gives (bestA n zs vs) w) := by
  obtain ⟨i0, hi0, hz0, hz1, hz2⟩ := info_parts info_int
  have S0 := SV.new w n a zs cap l vs 27 hi hj
  clear hi hj
  by_cases hv : vsB n zs = false
  · have HN := hide (bestA_no (vvB_no (vs := vs) hv))
    go_enter Try.func12, Try.ntmps12
    go_wp2_with fail
    refine (validSpace_any _ _ _ _ _ S0.2.1 hn).mono ?_
    rintro e w1 ⟨rfl, hb⟩
    go_wp2
    go_ret
    exact gives_nil HN.out (S0.below hb).2.2.2
  · have hv : vsB n zs = true := by simpa using hv
    have hV := hide (valid_of hv)
    have HVV := hide (vvB_yes (vs := vs) hv)
    by_cases hvo : votesB zs vs = false
    · have HN := hide (bestA_no (HVV.out.trans hvo))
      go_enter Try.func12, Try.ntmps12
      go_wp2_with fail
      refine (validSpace_any _ _ _ _ _ S0.2.1 hn).mono ?_
      rintro e w1 ⟨rfl, hb⟩
      have S1 := S0.below hb
      obtain ⟨⟨_, c0, c1⟩, _⟩ := S1.pair
      go_wp2_with fail
      refine (validVotes_any _ _ _ _ _ _ _ _ S1.2.1 S1.2.2.1 hn hm).mono ?_
      rintro e w2 ⟨rfl, hb2⟩
      go_wp2
      go_ret
      exact gives_nil HN.out (S1.below hb2).2.2.2
    · have hvo : votesB zs vs = true := by simpa using hvo
      have HN := hide (bestA_yes (HVV.out.trans hvo))
      have HVO := hide (votes_of hvo)
      have HR := hide (votes_range hV.out HVO.out)
      have HZ := hide (valid_range hV.out)
      have hpos := hV.out.2.1
      have h5 : vs.length ≤ 5 := by have := HVO.out.2; omega
      go_enter Try.func12, Try.ntmps12
      go_wp2_with fail
      refine (validSpace_any _ _ _ _ _ S0.2.1 hn).mono ?_
      rintro e w1 ⟨rfl, hb⟩
      have S1 := S0.below hb
      obtain ⟨⟨_, c0, c1⟩, _⟩ := S1.pair
      go_wp2_with fail
      refine (validVotes_any _ _ _ _ _ _ _ _ S1.2.1 S1.2.2.1 hn hm).mono ?_
      rintro e wo ⟨rfl, hb2⟩
      have SR := S1.below hb2
      clear S0 hb S1 hb2 c0 c1
      obtain ⟨⟨_, c0, c1⟩, _⟩ := SR.pair
      have ho0 : Owns (wo.alloc (.cells #[] 3)) wo.heap.size (.slice (some ⟨wo.heap.size, 0, none⟩) 0 0) [] := World.ownsRow_lit wo #[] 0 (Nat.le_refl _) (by simp) rfl
      have BA := bel1 wo (.cells #[] 3)
      go_wp2
      clear c0 c1
      go_loopw [5, 6] (fun v i wr => ∃ k : Nat, k ≤ zs.length ∧ i = .int .i64 k ∧ Owns wr wo.heap.size v (farL (totN vs) (zs.take k)) ∧ Below wo.heap.size wo wr) (fun _ i _ => zs.length - (intOf i).toNat)
      case atStart => exact ⟨0, Nat.zero_le _, rfl, ho0, BA⟩
      case round =>
        clear ho0 BA
        obtain ⟨k, hk, rfl, hown, BR⟩ := hrel
        have SQ := SR.below BR
        obtain ⟨⟨_, c0, c1⟩, iz, il, _⟩ := SQ.pair
        by_cases hlt : k < zs.length
        · obtain ⟨b, off, rfl, hbl, hc⟩ := iz (by omega)
          have hck := hc k hlt
          rw [getD_lt hlt] at hck
          have hdt := hide (farL_take (totN vs) zs k hlt)
          have hle : (farL (totN vs) (zs.take k)).length ≤ k := by rw [farL_length]; exact List.length_take_le _ _
          have hsz := BR.size
          have rz := hide (HZ.out _ (mem_of_at hlt))
          clear hc iz
          go_wp2_with (first
            | (go_at_call 44; refine (total_any _ _ _ _ _ il h5 HR.out rz.out).mono ?_; rintro e w' ⟨rfl, rfl⟩)
            | (at_builtin; refine wpList_append_own _ rfl _ _ 22 rfl wo.heap.size 3 i0 (.int .i64 0) 1 8 Try.underlying22 hi0 hz0 hz1 hz2 rfl (by decide) _ _ _ rfl (hown.alloc _) ⟨wr.heap.size, 0, none⟩ 1 1 [.int .i64 (totN vs zs[k] : Nat)] rfl rfl ?c1 ?c2 ?c3 ?c4 ?c5 ?_))
          case c1 => exact cell_one_new _ _ _
          case c2 => intro u hu; simp at hu; subst hu; rfl
          case c3 => unfold maxLen; omega
          case c4 => omega
          case c5 => simp; omega
          intro v' w2 hown' hgrow _
          have hpush := hide (Owns.push hown')
          have hbel : Below wo.heap.size wo w2 := (BR.alloc hsz _).grown hgrow (by simp; omega) (fun j hj => own_ge hown j hj)
          clear hown' hgrow hown
          go_wp2
          go_roundw
          case rel => exact ⟨k + 1, by omega, by go_num, by rw [hdt.out]; exact hpush.out, hbel⟩
          case measure => simp only [intOf]; omega
        · obtain rfl : k = zs.length := by omega
          rw [List.take_length] at hown
          obtain ⟨av, cv, rfl, iv, _⟩ := hown.form
          have hlv := farL_length (totN vs) zs
          rw [hlv]
          clear hlv
          have iv' := hide iv
          clear iv hown
          go_wp2_with fail
          refine (nearestF_any (totN vs) _ _ _ _ _ _ _ iz iv'.out hn hpos).mono ?_
          rintro e w3 ⟨v, rfl, ov, hb3⟩
          go_wp2
          go_ret
          exact ⟨v, rfl, by rw [HN.out, unb_near]; exact ov.le SQ.2.2.2.size, bnext SQ.2.2.2 hb3⟩
end Go.Proofs.Ytcophcjkhdipbaa
