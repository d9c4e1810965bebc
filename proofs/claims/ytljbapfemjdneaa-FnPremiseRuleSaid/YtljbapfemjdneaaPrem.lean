/- PremiseRule in the model and in the program. -/
import Derived.Test.YtljbapfemjdneaaSet
import Derived.Deep.RegionHeld3
import Derived.Deep.DeepCutAuto
import Derived.OwnWalk
namespace Go.Proofs.Ytljbapfemjdneaa
open Go.RowKit Go.Joins

/-- the judgments with the majority's answers to the premises -/
def premP (n : Int) (vs : List Int) (p : Int) (x : Int) : Bool := hpB x p ((p.toNat &&& wantB vs n.toNat : Nat) : Int)
def PremOk (n : Int) (zs vs : List Int) (p : Int) : Prop := vvB n zs vs = true ∧ (0 ≤ p ∧ p ≤ pw n - 1)
instance (n : Int) (zs vs : List Int) (p : Int) : Decidable (PremOk n zs vs p) := by unfold PremOk; infer_instance
def premL (n : Int) (zs vs : List Int) (p : Int) : List Int := if PremOk n zs vs p then zs.filter (premP n vs p) else []
/-- the last of a list -/
def lastOf : List Int → Int
  | [] => 0
  | [x] => x
  | _ :: y :: l => lastOf (y :: l)
/-- what PremiseRule answers -/
def premX (n : Int) (zs vs : List Int) (p : Int) : Int := if (premL n zs vs p).length = 1 then lastOf (premL n zs vs p) else 0
def premB (n : Int) (zs vs : List Int) (p : Int) : Bool := decide ((premL n zs vs p).length = 1)
theorem premL_yes {n : Int} {zs vs : List Int} {p : Int} (h : PremOk n zs vs p) : premL n zs vs p = zs.filter (premP n vs p) := if_pos h
theorem premL_no {n : Int} {zs vs : List Int} {p : Int} (h : ¬ PremOk n zs vs p) : premL n zs vs p = [] := if_neg h
def PremGives (n : Int) (zs vs : List Int) (p : Int) (w : World) (e : Ending) (w' : World) : Prop := e = .returned (.tuple #[.int .i64 (premX n zs vs p), .bool (premB n zs vs p)]) ∧ Below w.heap.size w w'
theorem prem_no {n : Int} {zs vs : List Int} {p : Int} {w w' : World} (h : (premL n zs vs p).length ≠ 1) (hb : Below w.heap.size w w') : PremGives n zs vs p w (.returned (.tuple #[.int .i64 0, .bool false])) w' := by
  unfold PremGives premX premB
  rw [if_neg h, decide_eq_false h]
  exact ⟨rfl, hb⟩
theorem prem_one {n : Int} {zs vs : List Int} {p x : Int} {w w' : World} (h : (premL n zs vs p).length = 1) (hx : lastOf (premL n zs vs p) = x) (hb : Below w.heap.size w w') : PremGives n zs vs p w (.returned (.tuple #[.int .i64 x, .bool true])) w' := by
  unfold PremGives premX premB
  rw [if_pos h, decide_eq_true h, hx]
  exact ⟨rfl, hb⟩
theorem lastOf_snoc (x : Int) : ∀ l : List Int, lastOf (l ++ [x]) = x
  | [] => rfl
  | [_] => rfl
  | _ :: b :: l => lastOf_snoc x (b :: l)
theorem and_nat {x y : Int} (hx : 0 ≤ x ∧ x ≤ 15) (hy : 0 ≤ y ∧ y ≤ 15) : bits .and .i64 x y = ((x.toNat &&& y.toNat : Nat) : Int) := by
  obtain ⟨a, rfl⟩ := Int.eq_ofNat_of_zero_le hx.1
  obtain ⟨b, rfl⟩ := Int.eq_ofNat_of_zero_le hy.1
  rw [and_small a b (by omega) (by omega)]; simp
theorem prem_test {m : Nat} {vs : List Int} {p x : Int} (h4 : m ≤ 4) (hp : 0 ≤ p ∧ p ≤ 15) (hx : 0 ≤ x ∧ x ≤ 15) : (bits .and .i64 x p == bits .and .i64 (wantB vs m : Nat) p) = premP m vs p x := by
  have h16 := want_16 vs m h4
  rw [and_nat hx hp, and_nat ⟨by omega, by omega⟩ hp]
  unfold premP hpB
  simp only [Int.toNat_natCast]
  rw [Nat.and_comm p.toNat]
  rw [Bool.eq_iff_iff, beq_iff_eq, beq_iff_eq]
  omega

set_option maxHeartbeats 4000000 in
theorem specPremiseRule_any (n : Int) (a l : Option Addr) (cap capl : Nat) (zs vs : List Int) (p : Int) (w : World) (hi : Ints w a zs) (hj : Ints w l vs) (hn : zs.length ≤ 1048576) (hm : vs.length ≤ 1048576) :
    Calls Try.prog 62 #[.agg #[.int .i64 n, .slice a zs.length cap], .slice l vs.length capl, .int .i64 p] w (PremGives n zs vs p w) := by
  have S0 := SV.new w n a zs cap l vs 25 hi hj
  clear hi hj
  by_cases hv : vsB n zs = false
  · have HN : Hid ((premL n zs vs p).length ≠ 1) := by unfold Hid; rw [premL_no (fun h => by have := h.1; rw [vvB_no hv] at this; cases this)]; simp
    go_enter Try.func62, Try.ntmps62
    go_wp2_with fail
    refine (validSpace_any _ _ _ _ _ S0.2.1 hn).mono ?_
    rintro e w1 ⟨rfl, hb⟩
    go_wp2
    go_ret2
    exact prem_no HN.out (S0.below hb).2.2.2
  · have hv : vsB n zs = true := by simpa using hv
    have hV := hide (valid_of hv)
    have HVV := hide (vvB_yes (vs := vs) hv)
    by_cases hvo : votesB zs vs = false
    · have HN : Hid ((premL n zs vs p).length ≠ 1) := by unfold Hid; rw [premL_no (fun h => by have := h.1; rw [HVV.out, hvo] at this; cases this)]; simp
      go_enter Try.func62, Try.ntmps62
      go_wp2_with fail
      refine (validSpace_any _ _ _ _ _ S0.2.1 hn).mono ?_
      rintro e w1 ⟨rfl, hb⟩
      have S1 := S0.below hb
      obtain ⟨⟨_, c0, c1⟩, _⟩ := S1.pair
      go_wp2_with fail
      refine (validVotes_any _ _ _ _ _ _ _ _ S1.2.1 S1.2.2.1 hn hm).mono ?_
      rintro e w2 ⟨rfl, hb2⟩
      go_wp2
      go_ret2
      exact prem_no HN.out (S1.below hb2).2.2.2
    · have hvo : votesB zs vs = true := by simpa using hvo
      have HVO := hide (votes_of hvo)
      have HR := hide (votes_range hV.out HVO.out)
      have HZ := hide (valid_range hV.out)
      have hlz := hV.out.2.1
      obtain ⟨m, rfl⟩ := Int.eq_ofNat_of_zero_le (show 0 ≤ n from by have := hV.out.1; omega)
      have h4 : m ≤ 4 := by have := hV.out.1; omega
      have h5 : vs.length ≤ 5 := by have := HVO.out.2; omega
      have p1 := pw_pos (m : Int)
      have p2 := pw_le (m : Int) (by omega)
      have hw : IntKind.i64.wrap (pw (m : Int) - 1) = pw (m : Int) - 1 := IntWalk.i64_in _ (by omega)
      by_cases hp : 0 ≤ p ∧ p ≤ pw (m : Int) - 1
      · have HK := hide (premL_yes (⟨HVV.out.trans hvo, hp⟩ : PremOk (m : Int) zs vs p))
        have HP := hide hp
        have hp15 : Hid (0 ≤ p ∧ p ≤ 15) := ⟨hp.1, by omega⟩
        clear hp
        go_enter Try.func62, Try.ntmps62
        go_wp2_with fail
        refine (validSpace_any _ _ _ _ _ S0.2.1 hn).mono ?_
        rintro e w1 ⟨rfl, hb⟩
        have S1 := S0.below hb
        obtain ⟨⟨_, c0, c1⟩, _⟩ := S1.pair
        go_wp2_with fail
        refine (validVotes_any _ _ _ _ _ _ _ _ S1.2.1 S1.2.2.1 hn hm).mono ?_
        rintro e w2 ⟨rfl, hb2⟩
        have S2 := S1.below hb2
        clear c0 c1 S1 S0 hb hb2
        have ⟨⟨_, c0, c1⟩, _⟩ := S2
        go_wp2_with (first
          | (go_at_call 80; refine (power_any _ _ (by omega) (by omega)).mono ?_; rintro e w' ⟨rfl, rfl⟩)
          | (go_at_call 84; refine (inRange_yes _ _ _ _ HP.out).mono ?_; rintro e w' ⟨rfl, rfl⟩))
        clear c0 c1
        go_loopw [8, 9, 10] (fun x c i wr => ∃ k : Nat, k ≤ zs.length ∧ i = .int .i64 k ∧ c = .int .i64 (((zs.take k).filter (premP m vs p)).length : Nat) ∧ x = .int .i64 (lastOf ((zs.take k).filter (premP m vs p))) ∧ SV w m a zs cap l vs wr) (fun _ _ i _ => zs.length - (intOf i).toNat)
        case atStart => exact ⟨0, Nat.zero_le _, rfl, rfl, rfl, S2⟩
        case round =>
          clear S2
          obtain ⟨k, hk, rfl, rfl, rfl, SR⟩ := hrel
          obtain ⟨⟨_, c0, c1⟩, iz, il, _⟩ := SR.pair
          have hle := filter_le (premP m vs p) zs k
          by_cases hlt : k < zs.length
          · obtain ⟨b, off, rfl, hbl, hc⟩ := iz (by omega)
            have hck := hc k hlt
            rw [getD_lt hlt] at hck
            have hft := hide (filter_take (premP m vs p) zs k hlt)
            have ht := prem_test (m := m) (vs := vs) h4 hp15.out (HZ.out _ (mem_of_at hlt))
            clear hc iz
            by_cases he : premP m vs p zs[k] = true
            · have hE : (bits .and .i64 zs[k] p == bits .and .i64 (wantB vs m : Nat) p) = true := by rw [ht]; exact he
              have HE := hide he
              clear he ht
              go_upto_region 8 with fail
              first | go_region_held3 (fun w' => w'.cell? ⟨w.heap.size, 0, none⟩ = some (.int .i64 m) ∧ w'.cell? ⟨w.heap.size, 1, none⟩ = some (.slice (some ⟨b, off, none⟩) zs.length cap) ∧ w'.cell? ⟨b, off + k, none⟩ = some (.int .i64 zs[k]))
                (first
                  | exact ⟨c0, c1, hck⟩
                  | exact ⟨S3.1.2.1, S3.1.2.2, ((bdrew hb3).cell (p := ⟨b, off + k, none⟩) hbl).trans hck⟩
                  | go_keep)
                (first
                  | (go_at_call 95; refine (majority_any _ _ _ _ _ _ _ _ SR.drew.2.2.1 h5 h4 HR.out).mono ?_; rintro e w3 ⟨rfl, hb3⟩; have S3 := SR.drew.below hb3)
                  | fail) | fail
              have ⟨⟨_, d0, d1⟩, _⟩ := S3
              have hck3 := ((bdrew hb3).cell (p := ⟨b, off + k, none⟩) hbl).trans hck
              go_wp2
              go_roundw
              case rel => exact ⟨k + 1, by omega, by go_num, by rw [hft.out, if_pos HE.out, List.length_append]; go_num, by rw [hft.out, if_pos HE.out, lastOf_snoc], S3⟩
              case measure => simp only [intOf]; omega
            · have he : premP m vs p zs[k] = false := by simpa using he
              have hE : (bits .and .i64 zs[k] p == bits .and .i64 (wantB vs m : Nat) p) = false := by rw [ht]; exact he
              have HE := hide he
              clear he ht
              go_upto_region 8 with fail
              first | go_region_held3 (fun w' => w'.cell? ⟨w.heap.size, 0, none⟩ = some (.int .i64 m) ∧ w'.cell? ⟨w.heap.size, 1, none⟩ = some (.slice (some ⟨b, off, none⟩) zs.length cap) ∧ w'.cell? ⟨b, off + k, none⟩ = some (.int .i64 zs[k]))
                (first
                  | exact ⟨c0, c1, hck⟩
                  | exact ⟨S3.1.2.1, S3.1.2.2, ((bdrew hb3).cell (p := ⟨b, off + k, none⟩) hbl).trans hck⟩
                  | go_keep)
                (first
                  | (go_at_call 95; refine (majority_any _ _ _ _ _ _ _ _ SR.drew.2.2.1 h5 h4 HR.out).mono ?_; rintro e w3 ⟨rfl, hb3⟩; have S3 := SR.drew.below hb3)
                  | fail) | fail
              go_wp2
              go_roundw
              case rel => exact ⟨k + 1, by omega, by go_num, by rw [hft.out, if_neg (by rw [HE.out]; decide), List.append_nil], by rw [hft.out, if_neg (by rw [HE.out]; decide), List.append_nil], S3⟩
              case measure => simp only [intOf]; omega
          · obtain rfl : k = zs.length := by omega
            rw [List.take_length, ← HK.out] at hle ⊢
            by_cases h1 : (premL m zs vs p).length = 1
            · have hne : (((premL m zs vs p).length : Int) != 1) = false := by rw [h1]; rfl
              have H1 := hide h1
              clear h1
              go_wp2
              go_ret2
              exact prem_one H1.out rfl SR.2.2.2
            · have hne : (((premL m zs vs p).length : Int) != 1) = true := by rw [bne_iff_ne]; omega
              have H1 := hide h1
              clear h1
              go_wp2
              go_ret2
              exact prem_no H1.out SR.2.2.2
      · have HN : Hid ((premL (m : Int) zs vs p).length ≠ 1) := by unfold Hid; rw [premL_no (fun h => hp h.2)]; simp
        have HP := hide hp
        clear hp
        go_enter Try.func62, Try.ntmps62
        go_wp2_with fail
        refine (validSpace_any _ _ _ _ _ S0.2.1 hn).mono ?_
        rintro e w1 ⟨rfl, hb⟩
        have S1 := S0.below hb
        obtain ⟨⟨_, c0, c1⟩, _⟩ := S1.pair
        go_wp2_with fail
        refine (validVotes_any _ _ _ _ _ _ _ _ S1.2.1 S1.2.2.1 hn hm).mono ?_
        rintro e w2 ⟨rfl, hb2⟩
        have S2 := S1.below hb2
        clear c0 c1 S1 S0 hb hb2
        have ⟨⟨_, c0, c1⟩, _⟩ := S2
        go_wp2_with (first
          | (go_at_call 80; refine (power_any _ _ (by omega) (by omega)).mono ?_; rintro e w' ⟨rfl, rfl⟩)
          | (go_at_call 84; refine (inRange_no _ _ _ _ HP.out).mono ?_; rintro e w' ⟨rfl, rfl⟩))
        go_ret2
        exact prem_no HN.out S2.2.2.2
set_option maxHeartbeats 1000000 in
theorem picked_prem (p : Int → Bool) (a : Option Addr) (cap g : Nat) (zs : List Int) (w : World) (hi : Ints w a zs) (hn : zs.length ≤ 1048576)
    (hf : ∀ (x : Int) (w' : World), x ∈ zs → Below w.heap.size w w' → Calls Try.prog 101 #[.int .i64 x, .pointer (some ⟨g, 0, none⟩)] w' fun e w'' => e = .returned (.bool (p x)) ∧ Below w'.heap.size w' w'') :
    Calls Try.prog 73 #[.slice a zs.length cap, .func (.func 101) #[] #[.pointer (some ⟨g, 0, none⟩)]] w fun e w' => ∃ v, e = .returned v ∧ Owns w' w.heap.size v (zs.filter p) ∧ Below w.heap.size w w' := by
  obtain ⟨i0, hi0, hz0, hz1, hz2⟩ := info_parts info_int
  have HF := hide hf
  clear hf
  go_enter Try.func73, Try.ntmps73
  go_wp2_with fail
  go_loopw [5, 10] (fun v i wr => ∃ k : Nat, k ≤ zs.length ∧ i = .int .i64 k ∧ Owns wr w.heap.size v ((zs.take k).filter p) ∧ Below w.heap.size w wr) (fun _ i _ => zs.length - (intOf i).toNat)
  case atStart => exact ⟨0, Nat.zero_le _, rfl, World.ownsRow_nil _ _ _ _, Below.refl _ _⟩
  case round =>
    obtain ⟨k, hk, rfl, hown, hb⟩ := hrel
    by_cases hlt : k < zs.length
    · obtain ⟨b, off, rfl, hbl, hc⟩ := (hi.below hb) (by omega)
      have hck := hc k hlt
      rw [getD_lt hlt] at hck
      have hft := hide (filter_take p zs k hlt)
      have hle := filter_le p zs k
      clear hc hi
      by_cases he : p zs[k] = true
      · have HE := hide he
        clear he
        go_wp2_with fail
        refine (HF.out _ _ (mem_of_at hlt) hb).mono ?_
        rintro e w1 ⟨rfl, h1⟩
        have he := HE.out
        have hb1 := bnext hb h1
        have ho1 : w1.ownsRow w.heap.size 3 1 u5 ((zs.take k).filter p).length (((zs.take k).filter p).map (Value.int .i64)) := hown.below h1
        have hz := hb1.size
        clear h1 hown
        go_wp2_with ((at_builtin; refine wpList_append_own _ rfl _ _ 23 rfl w.heap.size 3 i0 (.int .i64 0) 1 8 Try.underlying23 hi0 hz0 hz1 hz2 rfl (by decide) _ _ _ rfl (ho1.alloc _) ⟨w1.heap.size, 0, none⟩ 1 1 [.int .i64 zs[k]] rfl rfl ?c1 ?c2 ?c3 ?c4 ?c5 ?_))
        case c1 => exact cell_one_new _ _ _
        case c2 => intro u hu; simp at hu; subst hu; rfl
        case c3 => unfold maxLen; omega
        case c4 => omega
        case c5 => simp; omega
        intro v' w2 hown' hgrow _
        have hpush := hide (Owns.push hown')
        have hbel : Below w.heap.size w w2 := (hb1.alloc hz _).grown hgrow (by simp; omega) (fun j hj => (ho1.lt j hj).1)
        clear hown' hgrow ho1
        go_wp2
        go_roundw
        case rel => exact ⟨k + 1, by omega, by go_num, by rw [hft.out, if_pos HE.out]; exact hpush.out, hbel⟩
        case measure => simp only [intOf]; omega
      · have he : p zs[k] = false := by simpa using he
        have HE := hide he
        clear he
        go_wp2_with fail
        refine (HF.out _ _ (mem_of_at hlt) hb).mono ?_
        rintro e w1 ⟨rfl, h1⟩
        have he := HE.out
        go_wp2
        go_roundw
        case rel => exact ⟨k + 1, by omega, by go_num, by rw [hft.out, if_neg (by rw [HE.out]; decide), List.append_nil]; exact hown.below h1, bnext hb h1⟩
        case measure => simp only [intOf]; omega
    · obtain rfl : k = zs.length := by omega
      go_wp2
      go_ret
      exact ⟨_, rfl, by rw [List.take_length] at hown; exact hown, hb⟩

theorem premClosure_any (x c b : Int) (g : Nat) (w : World) (bx : PBox w g c b) (hx : 0 ≤ x ∧ x ≤ 15) (hc : 0 ≤ c ∧ c ≤ 15) (hb : 0 ≤ b) :
    Calls Try.prog 101 #[.int .i64 x, .pointer (some ⟨g, 0, none⟩)] w fun e w' => e = .returned (.bool (hpB x c b)) ∧ Below w.heap.size w w' := by
  obtain ⟨_, c0, c1⟩ := bx
  go_enter Try.func101, Try.ntmps101
  go_wp2_with fail
  refine (hasPart_any _ _ _ _ hx hc hb).mono ?_
  rintro e w1 ⟨rfl, h1⟩
  go_wp2
  go_ret
  exact ⟨rfl, h1⟩

set_option maxHeartbeats 4000000 in
theorem implPremiseRule_any (n : Int) (a l : Option Addr) (cap capl : Nat) (zs vs : List Int) (p : Int) (w : World) (hi : Ints w a zs) (hj : Ints w l vs) (hn : zs.length ≤ 1048576) (hm : vs.length ≤ 1048576) :
    Calls Try.prog 61 #[.agg #[.int .i64 n, .slice a zs.length cap], .slice l vs.length capl, .int .i64 p] w (PremGives n zs vs p w) := by
  have S0 := SV.new w n a zs cap l vs 25 hi hj
  clear hi hj
  by_cases hv : vvB n zs vs = false
  · have HN : Hid ((premL n zs vs p).length ≠ 1) := by unfold Hid; rw [premL_no (fun h => by have := h.1; rw [hv] at this; cases this)]; simp
    go_enter Try.func61, Try.ntmps61
    go_wp2_with fail
    refine (implValidVotes_any _ _ _ _ _ _ _ _ S0.2.1 S0.2.2.1 hn hm).mono ?_
    rintro e w1 ⟨rfl, hb⟩
    go_wp2
    go_ret2
    exact prem_no HN.out (S0.below hb).2.2.2
  · have hv : vvB n zs vs = true := by simpa using hv
    have hV := vv_of hv
    have HZ := hide (valid_range hV.1)
    obtain ⟨m, rfl⟩ := Int.eq_ofNat_of_zero_le (show 0 ≤ n from by have := hV.1.1; omega)
    have h4 : m ≤ 4 := by have := hV.1.1; omega
    have p1 := pw_pos (m : Int)
    have p2 := pw_le (m : Int) (by omega)
    have HMJ := hide (majV_yes hv)
    by_cases hp : 0 ≤ p ∧ p ≤ pw (m : Int) - 1
    · have HK := hide (premL_yes (⟨hv, hp⟩ : PremOk (m : Int) zs vs p))
      have hp15 : 0 ≤ p ∧ p ≤ 15 := ⟨hp.1, by omega⟩
      have W16 := want_16 vs m h4
      have hand : bits .and .i64 p (wantB vs m : Nat) = ((p.toNat &&& wantB vs m : Nat) : Int) := by
        rw [and_nat hp15 ⟨by omega, by omega⟩]; simp
      have dx : decide (0 ≤ p ∧ p ≤ pw (m : Int) - 1) = true := by simpa using hp
      have HP15 := hide hp15
      clear hv hV hp hp15 W16
      go_enter Try.func61, Try.ntmps61
      go_wp2_with fail
      refine (implValidVotes_any _ _ _ _ _ _ _ _ S0.2.1 S0.2.2.1 hn hm).mono ?_
      rintro e w1 ⟨rfl, hb⟩
      have S1 := S0.below hb
      clear S0 hb
      have ⟨⟨_, c0, c1⟩, _⟩ := S1
      go_wp2_with (go_at_call 72; refine (isJudgment_any _ _ _ (by omega) (by omega)).mono ?_; rintro e w' ⟨rfl, rfl⟩)
      refine (implMajorityOf_any _ _ _ _ _ _ _ _ S1.2.1 S1.2.2.1 hn hm).mono ?_
      rintro e w2 ⟨rfl, hb2⟩
      rw [HMJ.out, Int.toNat_natCast]
      have px := PBox.new w2 p ((p.toNat &&& wantB vs m : Nat) : Int) 35
      have S2 := (S1.below hb2).below (bel1 w2 (.cells #[.int .i64 p, .int .i64 ((p.toNat &&& wantB vs m : Nat) : Int)] 35))
      clear S1 hb2 c0 c1
      have ⟨⟨_, c0, c1⟩, _⟩ := S2
      have HS := hide S2
      have HX := hide px
      clear S2 px
      go_wp2_with fail
      refine (picked_prem (fun x => premP m vs p x) _ _ _ _ _ HS.out.2.1 hn
        (fun x w' hx hb => by
          have h := premClosure_any x p ((p.toNat &&& wantB vs m : Nat) : Int) _ w' (HX.out.below hb) (HZ.out _ hx) HP15.out (by omega)
          refine h.mono fun e w'' ⟨he, hb⟩ => ⟨he.trans (ret_bool ?_), hb⟩
          unfold premP
          rw [Int.toNat_natCast])).mono ?_
      rintro e w3 ⟨v, rfl, ov, hb3⟩
      rw [← HK.out] at ov
      have S3 := HS.out.below hb3
      obtain ⟨av, cv, rfl, iv, _⟩ := ov.form
      clear ov c0 c1
      by_cases h1 : (premL m zs vs p).length = 1
      · obtain ⟨x, hx⟩ := List.length_eq_one_iff.1 h1
        have H1 := hide h1
        have HXX : Hid (lastOf (premL m zs vs p) = x) := by unfold Hid; rw [hx]; rfl
        rw [hx] at iv
        obtain ⟨b, off, rfl, hbl, hc⟩ := iv (by simp)
        have hc0 := hc 0 (by simp)
        rw [Nat.add_zero] at hc0
        have hc1 : w3.cell? ⟨b, off, none⟩ = some (.int .i64 x) := hc0
        rw [h1]
        clear hc hc0 hx h1
        go_wp2
        go_ret2
        exact prem_one H1.out HXX.out S3.2.2.2
      · have hne : (((premL m zs vs p).length : Int) != 1) = true := by rw [bne_iff_ne]; omega
        have H1 := hide h1
        clear h1
        go_wp2
        go_ret2
        exact prem_no H1.out S3.2.2.2
    · have HN : Hid ((premL (m : Int) zs vs p).length ≠ 1) := by unfold Hid; rw [premL_no (fun h => hp h.2)]; simp
      have dx : decide (0 ≤ p ∧ p ≤ pw (m : Int) - 1) = false := by simpa using hp
      clear hp
      go_enter Try.func61, Try.ntmps61
      go_wp2_with fail
      refine (implValidVotes_any _ _ _ _ _ _ _ _ S0.2.1 S0.2.2.1 hn hm).mono ?_
      rintro e w1 ⟨rfl, hb⟩
      have S1 := S0.below hb
      have ⟨⟨_, c0, c1⟩, _⟩ := S1
      go_wp2_with (go_at_call 72; refine (isJudgment_any _ _ _ (by omega) (by omega)).mono ?_; rintro e w' ⟨rfl, rfl⟩)
      go_ret2
      exact prem_no HN.out S1.2.2.2
end Go.Proofs.Ytljbapfemjdneaa
