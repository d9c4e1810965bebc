/- Texts of this seat one behind the other: MedR, Giv. Conditions: none. -/
import Derived.Test.YtgebplpbnaeckaaGreatDoorMg09
import Derived.Test.YtgebplpbnaeckaaGreatDoorMg11
import Derived.Test.YtgebplpbnaeckaaGreatDoorMg10
import Derived.Outline
import Derived.Deep.RegionHeld3

/- MedR: MedianRule of the model. -/
namespace Go.Proofs.YtgebplpbnaeckaaGreatDoor
open Go.RowKit Go.Joins

theorem total_any (l : Option Addr) (capl : Nat) (vs : List Int) (x : Int) (w : World) (hi : Ints w l vs) (h5 : vs.length ≤ 5) (hr : ∀ v ∈ vs, 0 ≤ v ∧ v ≤ 15) (hx : 0 ≤ x ∧ x ≤ 15) :
    Calls Tryz.prog 65 #[.slice l vs.length capl, .int .i64 x] w fun e w' => e = .returned (.int .i64 (totN vs x : Nat)) ∧ w = w' := by
  have HR := hide hr
  have HX := hide hx
  clear hr hx
  go_enter Tryz.func65, Tryz.ntmps65
  go_wp2_with fail
  go_loop [5, 6] (fun s i => ∃ k : Nat, k ≤ vs.length ∧ i = .int .i64 k ∧ s = .int .i64 (totK vs x k : Nat)) (fun _ i => vs.length - (intOf i).toNat)
  case atStart => exact ⟨0, Nat.zero_le _, rfl, rfl⟩
  case round =>
    obtain ⟨k, hk, rfl, rfl⟩ := hrel
    have b1 := totK_le vs x k
    by_cases hlt : k < vs.length
    · obtain ⟨b, off, rfl, hbl, hc⟩ := hi (by omega)
      have hck := hc k hlt
      rw [getD_lt hlt] at hck
      have g1 := gp_le x vs[k]
      have H1 := hide (show totK vs x (k + 1) = totK vs x k + gp x vs[k] from by rw [totK, getD_lt hlt])
      clear hc hi
      go_wp2_with (go_at_call 94; refine (gp_spec _ HX.out (HR.out _ (mem_of_at hlt))).mono ?_; rintro e w' ⟨rfl, rfl⟩)
      go_round
      case rel => exact ⟨k + 1, by omega, by go_num, by rw [H1.out]; go_num⟩
      case measure => simp only [intOf]; omega
    · obtain rfl : k = vs.length := by omega
      go_wp2
      go_ret
      exact ⟨rfl, rfl⟩

set_option maxHeartbeats 2000000 in
theorem specMedianRule_any (n : Int) (a l : Option Addr) (cap capl : Nat) (zs vs : List Int) (w : World) (hi : Ints w a zs) (hj : Ints w l vs) (hn : zs.length ≤ 1048576) (hm : vs.length ≤ 1048576) :
    Calls Tryz.prog 42 #[.agg #[.int .i64 n, .slice a zs.length cap], .slice l vs.length capl] w (Gives (bestA n zs vs) w) := by
  obtain ⟨i0, hi0, hz0, hz1, hz2⟩ := info_parts info_int
  have S0 := SV.new w n a zs cap l vs 37 hi hj
  clear hi hj
  by_cases hv : vsB n zs = false
  · have HN := hide (bestA_no (vvB_no (vs := vs) hv))
    go_enter Tryz.func42, Tryz.ntmps42
    go_wp2_with fail
    refine (validSpace_any _ _ _ _ _ S0.2.1 hn).mono ?_
    rintro e w1 ⟨rfl, hb⟩
    go_wp2
    go_ret
    exact gives_nil HN.out (S0.below hb).2.2.2
  · have hv : vsB n zs = true := by simpa using hv
    have hV := hide (valid_of hv)
    have HVV := hide (vvB_yes (vs := vs) hv)
    by_cases hvo : votesB zs vs = false
    · have HN := hide (bestA_no (HVV.out.trans hvo))
      go_enter Tryz.func42, Tryz.ntmps42
      go_wp2_with fail
      refine (validSpace_any _ _ _ _ _ S0.2.1 hn).mono ?_
      rintro e w1 ⟨rfl, hb⟩
      have S1 := S0.below hb
      obtain ⟨⟨_, c0, c1⟩, _⟩ := S1.pair
      go_wp2_with fail
      refine (validVotes_any _ _ _ _ _ _ _ _ S1.2.1 S1.2.2.1 hn hm).mono ?_
      rintro e w2 ⟨rfl, hb2⟩
      go_wp2
      go_ret
      exact gives_nil HN.out (S1.below hb2).2.2.2
    · have hvo : votesB zs vs = true := by simpa using hvo
      have HN := hide (bestA_yes (HVV.out.trans hvo))
      have HVO := hide (votes_of hvo)
      have HR := hide (votes_range hV.out HVO.out)
      have HZ := hide (valid_range hV.out)
      have hpos := hV.out.2.1
      have h5 : vs.length ≤ 5 := by have := HVO.out.2; omega
      go_enter Tryz.func42, Tryz.ntmps42
      go_wp2_with fail
      refine (validSpace_any _ _ _ _ _ S0.2.1 hn).mono ?_
      rintro e w1 ⟨rfl, hb⟩
      have S1 := S0.below hb
      obtain ⟨⟨_, c0, c1⟩, _⟩ := S1.pair
      go_wp2_with fail
      refine (validVotes_any _ _ _ _ _ _ _ _ S1.2.1 S1.2.2.1 hn hm).mono ?_
      rintro e wo ⟨rfl, hb2⟩
      have SR := S1.below hb2
      clear S0 hb S1 hb2 c0 c1
      obtain ⟨⟨_, c0, c1⟩, _⟩ := SR.pair
      have ho0 : Owns (wo.alloc (.cells #[] 3)) wo.heap.size (.slice (some ⟨wo.heap.size, 0, none⟩) 0 0) [] := World.ownsRow_lit wo #[] 0 (Nat.le_refl _) (by simp) rfl
      have BA := bel1 wo (.cells #[] 3)
      go_wp2
      clear c0 c1
      go_loopw [5, 6] (fun v i wr => ∃ k : Nat, k ≤ zs.length ∧ i = .int .i64 k ∧ Owns wr wo.heap.size v (farL (totN vs) (zs.take k)) ∧ Below wo.heap.size wo wr) (fun _ i _ => zs.length - (intOf i).toNat)
      case atStart => exact ⟨0, Nat.zero_le _, rfl, ho0, BA⟩
      case round =>
        clear ho0 BA
        obtain ⟨k, hk, rfl, hown, BR⟩ := hrel
        have SQ := SR.below BR
        obtain ⟨⟨_, c0, c1⟩, iz, il, _⟩ := SQ.pair
        by_cases hlt : k < zs.length
        · obtain ⟨b, off, rfl, hbl, hc⟩ := iz (by omega)
          have hck := hc k hlt
          rw [getD_lt hlt] at hck
          have hdt := hide (farL_take (totN vs) zs k hlt)
          have hle : (farL (totN vs) (zs.take k)).length ≤ k := by rw [farL_length]; exact List.length_take_le _ _
          have hsz := BR.size
          have rz := hide (HZ.out _ (mem_of_at hlt))
          clear hc iz
          go_wp2_with (first
            | (go_at_call 65; refine (total_any _ _ _ _ _ il h5 HR.out rz.out).mono ?_; rintro e w' ⟨rfl, rfl⟩)
            | (at_builtin; refine wpList_append_own _ rfl _ _ 35 rfl wo.heap.size 3 i0 (.int .i64 0) 1 8 Tryz.underlying35 hi0 hz0 hz1 hz2 rfl (by decide) _ _ _ rfl (hown.alloc _) ⟨wr.heap.size, 0, none⟩ 1 1 [.int .i64 (totN vs zs[k] : Nat)] rfl rfl ?c1 ?c2 ?c3 ?c4 ?c5 ?_))
          case c1 => exact cell_one_new _ _ _
          case c2 => intro u hu; simp at hu; subst hu; rfl
          case c3 => unfold maxLen; omega
          case c4 => omega
          case c5 => simp; omega
          intro v' w2 hown' hgrow _
          have hpush := hide (Owns.push hown')
          have hbel : Below wo.heap.size wo w2 := (BR.alloc hsz _).grown hgrow (by simp; omega) (fun j hj => own_ge hown j hj)
          clear hown' hgrow hown
          go_wp2
          go_roundw
          case rel => exact ⟨k + 1, by omega, by go_num, by rw [hdt.out]; exact hpush.out, hbel⟩
          case measure => simp only [intOf]; omega
        · obtain rfl : k = zs.length := by omega
          rw [List.take_length] at hown
          obtain ⟨av, cv, rfl, iv, _⟩ := hown.form
          have hlv := farL_length (totN vs) zs
          rw [hlv]
          clear hlv
          have iv' := hide iv
          clear iv hown
          go_wp2_with fail
          refine (nearestF_any (totN vs) _ _ _ _ _ _ _ iz iv'.out hn hpos).mono ?_
          rintro e w3 ⟨v, rfl, ov, hb3⟩
          go_wp2
          go_ret
          exact ⟨v, rfl, by rw [HN.out, unb_near]; exact ov.le SQ.2.2.2.size, bnext SQ.2.2.2 hb3⟩
end Go.Proofs.YtgebplpbnaeckaaGreatDoor

/- Giv: given: the wanted answers that a judgment gives; SlaterRule of the model. -/
namespace Go.Proofs.YtgebplpbnaeckaaGreatDoor
open Go.RowKit Go.Joins

theorem giv_bits : ∀ x b c : Fin 16, bits .and .i64 (bits .xor .i64 ((x.val : Nat) : Int) ((b.val : Nat) : Int)) ((c.val : Nat) : Int) = (((x.val ^^^ b.val) &&& c.val : Nat) : Int) := by decide +kernel
def givN (c b : Nat) (x : Int) : Nat := c - lostN c b x
theorem givN_lt {c b : Nat} (x : Int) (hc : c < 16) : givN c b x < 16 := by unfold givN; omega
theorem given_any (c b : Nat) (x : Int) (w : World) (hc : c < 16) (hb : b < 16) (hx : 0 ≤ x ∧ x ≤ 15) :
    Calls Tryz.prog 68 #[.agg #[.int .i64 c, .int .i64 b], .int .i64 x] w fun e w' => e = .returned (.int .i64 (givN c b x : Nat)) ∧ Below w.heap.size w w' := by
  obtain ⟨z, rfl⟩ := Int.eq_ofNat_of_zero_le hx.1
  have hz : z < 16 := by omega
  have h2 : bits .and .i64 (bits .xor .i64 (z : Int) (b : Int)) (c : Int) = (((z ^^^ b) &&& c : Nat) : Int) := giv_bits ⟨z, hz⟩ ⟨b, hb⟩ ⟨c, hc⟩
  have hx1 := xor_small z b hz hb
  rw [hx1] at h2
  have hle : (z ^^^ b) &&& c ≤ c := Nat.and_le_right
  have hG : givN c b (z : Int) = c - ((z ^^^ b) &&& c) := rfl
  have HG := hide hG
  clear hG hx
  obtain ⟨q, hq⟩ : ∃ q, (z ^^^ b) &&& c = q := ⟨_, rfl⟩
  rw [hq] at h2 hle HG
  have hw : IntKind.i64.wrap ((c : Int) - (q : Int)) = (c : Int) - (q : Int) := IntWalk.i64_in _ (by omega)
  clear hq
  go_enter Tryz.func68, Tryz.ntmps68
  go_wp2
  go_ret
  exact ⟨ret_int (by rw [HG.out]; omega), bel1 w _⟩

def slaF (m c b : Nat) (x : Int) : Nat := m - wt (givN c b x)
theorem wt_part : ∀ c p : Fin 16, wt (c.val - (p.val &&& c.val)) + wt (p.val &&& c.val) = wt c.val := by decide +kernel
theorem wt_le_pow : ∀ m : Fin 5, ∀ c : Fin 16, c.val < 2 ^ m.val → wt c.val ≤ m.val := by decide +kernel
theorem and_16 {p c : Nat} (hc : c < 16) : ∃ q : Fin 16, p &&& c = q.val &&& c := ⟨⟨p &&& c, Nat.lt_of_le_of_lt Nat.and_le_right hc⟩, by rw [Nat.and_assoc, Nat.and_self]⟩
theorem more_slaF {m c b : Nat} (hm : m ≤ 4) (hc : c < 2 ^ m) (x y : Int) : moreB c b y x = decide (slaF m c b y < slaF m c b x) := by
  have h16 : c < 16 := Nat.lt_of_lt_of_le hc (Nat.pow_le_pow_right (n := 2) (by omega) hm)
  obtain ⟨p, hp⟩ := and_16 (p := y.toNat ^^^ b) h16
  obtain ⟨q, hq⟩ := and_16 (p := x.toNat ^^^ b) h16
  have h1 := wt_part ⟨c, h16⟩ p
  have h2 := wt_part ⟨c, h16⟩ q
  have h3 := wt_le_pow ⟨m, by omega⟩ ⟨c, h16⟩ hc
  simp only at h1 h2 h3
  unfold moreB slaF givN lostN
  rw [hp, hq, decide_eq_decide]
  omega

theorem unb_sla {m c b : Nat} {zs : List Int} (hm : m ≤ 4) (hc : c < 2 ^ m) : unbL (fun y x => moreB c b y x) zs = zs.filter (nearF (slaF m c b) zs) := by
  rw [← unb_near]
  exact unb_congr fun x _ y _ => more_slaF hm hc x y
theorem kept_bits : ∀ c p q : Fin 16, (((q.val &&& c.val) &&& (p.val &&& c.val) == (q.val &&& c.val)) && ((q.val &&& c.val) != (p.val &&& c.val))) =
    (((c.val - (p.val &&& c.val)) &&& (c.val - (q.val &&& c.val)) == (c.val - (p.val &&& c.val))) && ((c.val - (p.val &&& c.val)) != (c.val - (q.val &&& c.val)))) := by decide +kernel
theorem kept_giv {c b : Nat} (hc : c < 16) (x y : Int) : keptB c b y x = ((givN c b x &&& givN c b y == givN c b x) && (givN c b x != givN c b y)) := by
  obtain ⟨p, hp⟩ := and_16 (p := x.toNat ^^^ b) hc
  obtain ⟨q, hq⟩ := and_16 (p := y.toNat ^^^ b) hc
  have h := kept_bits ⟨c, hc⟩ p q
  simp only at h
  unfold keptB givN lostN
  rw [hp, hq]
  exact h
theorem and_small' (p q : Nat) (hp : p < 16) (hq : q < 16) : bits .and .i64 (p : Int) (q : Int) = ((p &&& q : Nat) : Int) := by
  have h : ∀ p q : Fin 16, bits .and .i64 ((p.val : Nat) : Int) ((q.val : Nat) : Int) = ((p.val &&& q.val : Nat) : Int) := by decide +kernel
  exact h ⟨p, hp⟩ ⟨q, hq⟩
theorem any_take {f : Int → Bool} {zs : List Int} {j : Nat} (h : j < zs.length) : (zs.take (j + 1)).any f = ((zs.take j).any f || f zs[j]) := by
  rw [List.take_add_one, List.getElem?_eq_getElem h, List.any_append]
  simp

theorem giv_le {m c b : Nat} (x : Int) (hc : c < 2 ^ m) (hm : m ≤ 4) : wt (givN c b x) ≤ m := by
  have h16 : c < 16 := Nat.lt_of_lt_of_le hc (Nat.pow_le_pow_right (n := 2) (by omega) hm)
  obtain ⟨p, hp⟩ := and_16 (p := x.toNat ^^^ b) h16
  have h1 := wt_part ⟨c, h16⟩ p
  have h3 := wt_le_pow ⟨m, by omega⟩ ⟨c, h16⟩ hc
  simp only at h1 h3
  unfold givN lostN
  rw [hp]
  omega

end Go.Proofs.YtgebplpbnaeckaaGreatDoor
